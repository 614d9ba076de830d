import Derived.Test.YtcnkcbipkchoiagK05
import Derived.Test.YtcnkcbipkchoiagK01
import Derived.Maps.OwnSet
import Derived.Maps.Keyed
import Derived.BigRegion
import Derived.Deep.Cut
namespace Go.Proofs.Ytcnkcbipkchoiag
open Go.ChangeShapes Go.WideShapes Go.ChangeAt Go.RowKit
def cellsSp (l : Sps) : List Value := l.flatMap fun q => [.int .i64 (q.1 : Int), .int .i64 (q.2 : Int)]
theorem cellsSp_at (l : Sps) : ∀ i, i < l.length → (cellsSp l)[i * 2]? = some (.int .i64 ((l.getD i (0, 0)).1 : Int)) ∧ (cellsSp l)[i * 2 + 1]? = some (.int .i64 ((l.getD i (0, 0)).2 : Int)) := by
  induction l with
  | nil => intro i h; simp at h
  | cons q l ih =>
    intro i h
    have e : cellsSp (q :: l) = .int .i64 (q.1 : Int) :: .int .i64 (q.2 : Int) :: cellsSp l := rfl
    cases i with
    | zero => exact ⟨rfl, rfl⟩
    | succ i =>
      have h' : i < l.length := by simpa using h
      have := ih i h'
      rw [e, show (i + 1) * 2 = i * 2 + 1 + 1 by omega, List.getElem?_cons_succ, List.getElem?_cons_succ, List.getElem?_cons_succ]
      exact this
/-- Spans of one's own. -/
def OwnSp (w : World) (v : Value) (l : Sps) : Prop := w.ownsRow 0 172 2 v l.length (cellsSp l)
theorem OwnSp.nil (w : World) : OwnSp w (.slice none 0 0) [] := World.ownsRow_nil _ _ _ _
theorem OwnSp.kept {w w' : World} {v : Value} {l : Sps} {S : List Nat} (h : OwnSp w v l) (hk : Kept S w w') (hs : ∀ g, v.ownBlock = some g → g ∉ S) : OwnSp w' v l := keptRow h hk hs
theorem OwnSp.shape {w : World} {v : Value} {l : Sps} (h : OwnSp w v l) : ∃ a c, v = .slice a l.length c ∧ l.length ≤ c ∧ c ≤ maxLen ∧ (∀ x, a = some x → ∃ g, x = ⟨g, 0, none⟩ ∧ v.ownBlock = some g) := row_shape h
theorem OwnSp.lt {w : World} {v : Value} {l : Sps} (h : OwnSp w v l) {g : Nat} (hg : v.ownBlock = some g) : g < w.heap.size := (World.ownsRow.lt h g hg).2
theorem OwnSp.at {w : World} {a : Option Addr} {c n : Nat} {l : Sps} (h : OwnSp w (.slice a n c) l) {i : Nat} (hi : i < l.length) : ∃ g, a = some ⟨g, 0, none⟩ ∧ g < w.heap.size ∧ ∀ k, k < l.length → w.cell? ⟨g, k * 2, none⟩ = some (.int .i64 ((l.getD k (0, 0)).1 : Int)) ∧ w.cell? ⟨g, k * 2 + 1, none⟩ = some (.int .i64 ((l.getD k (0, 0)).2 : Int)) := by
  have hn := row_len h
  subst hn
  obtain ⟨g, rfl⟩ := row_some h (by omega)
  obtain ⟨cur, hA, -, -, -, -, hct, hxl⟩ := row_at h
  refine ⟨g, rfl, hA.lt, fun k hk => ?_⟩
  have h2 := cellsSp_at l k hk
  rw [hA.cell, hA.cell, ← h2.1, ← h2.2, ← hct, List.getElem?_take_of_lt (by omega), List.getElem?_take_of_lt (by omega)]
  exact ⟨rfl, rfl⟩
theorem OwnSp.free {w : World} {g c n : Nat} {l : Sps} (h : OwnSp w (.slice (some ⟨g, 0, none⟩) n c) l) (j : Nat) : w.frozen? ⟨g, j, none⟩ = false := by
  obtain ⟨cur, hA, -⟩ := row_at h
  exact hA.free j
end Go.Proofs.Ytcnkcbipkchoiag
namespace Go.Proofs.Ytcnkcbipkchoiag
open Go.ChangeShapes Go.WideShapes Go.ChangeAt Go.RowKit
/-- A cell has been written; else only blocks of S are changed. -/
structure PtrPost (w w' : World) (b o : Nat) (S : List Nat) (v' : Value) : Prop where
  kept : Kept (b :: S) w w'
  row : ∀ T cur, At w b T cur → At w' b T (cur.set o v')
theorem At.setCell {w : World} {b o : Nat} {T : TypeId} {cur : List Value} (h : At w b T cur) (v : Value) : At (w.setCell ⟨b, o, none⟩ v) b T (cur.set o v) := by
  unfold At at h ⊢
  rw [heap_setCell_same w b o _ _ v h, List.setIfInBounds_toArray]
theorem At.setOther {w : World} {b : Nat} {T : TypeId} {cur : List Value} (h : At w b T cur) (p : Addr) (v : Value) (hne : b ≠ p.block) : At (w.setCell p v) b T cur := (heap_setCell_other w p b v hne).trans h
theorem kept_setCell (w : World) (b o : Nat) (v : Value) : Kept [b] w (w.setCell ⟨b, o, none⟩ v) := (Kept.refl _ w).setCell (by simp) _
theorem PtrPost.same {w w' : World} {b o : Nat} {S : List Nat} {v : Value} (hk : Kept S w w') (hn : b ∉ S) (hc : w.cell? ⟨b, o, none⟩ = some v) : PtrPost w w' b o S v := by
  refine ⟨hk.wider (fun x hx => List.mem_cons_of_mem _ hx), fun T cur h => ?_⟩
  have h1 := h.cell o
  rw [hc] at h1
  have h2 : cur.set o v = cur := by
    refine List.ext_getElem? fun i => ?_
    rw [List.getElem?_set]
    split
    · rename_i e; subst e; split
      · exact h1
      · rename_i h3; rw [List.getElem?_eq_none (by omega)]
    · rfl
  rw [h2]
  exact h.kept hk hn
end Go.Proofs.Ytcnkcbipkchoiag
namespace Go.Proofs.Ytcnkcbipkchoiag
open Go.ChangeShapes Go.WideShapes Go.ChangeAt Go.RowKit Go.Maps
def heldC (v : Value) : Option (DataW Value × List MemPlace) := some (.held v, [])
theorem heldC_inj {v : Value} {x : DataW Value} {ps : List MemPlace} (h : heldC v = some (x, ps)) : x = .held v := by
  unfold heldC at h
  simp at h
  exact h.1.symm
theorem Try.lawC : Keyed Try.prog 3 := int_keyed Try.underlying3
def In64 (k : Int) : Prop := -9223372036854775808 ≤ k ∧ k ≤ 9223372036854775807
theorem keyC {k : Int} (h : In64 k) : keyOf Try.prog 3 (.int .i64 k) = some (.int .i64 k) := keyOf_int_mk Try.underlying3 (WalkArith.wf_i64 h)
theorem keyLitC (k : Int) : WideAt.IsKeyLit (.int .i64 k) := by simp [WideAt.IsKeyLit]
theorem litC_ne {j k : Int} (h : j ≠ k) : Lit.int .i64 j ≠ Lit.int .i64 k := by
  intro e
  injection e with _ e
  exact h e
theorem ownsMap_tightC {w : World} {P : Program} {k : TypeId} {R : Value → Option (DataW Value × List MemPlace)} {b n n' : Nat} {D : DataW Value} (h : w.ownsMap P k R b n D) (hs : Maps.size D ≤ n') : w.ownsMap P k R b n' D := by
  obtain ⟨es, clock, hb, F, _, rfl⟩ := h
  refine ⟨es, clock, hb, F, ?_, rfl⟩
  simpa [Maps.size, length_sorted] using hs
theorem ownsMap_few {w : World} {P : Program} {k : TypeId} {R : Value → Option (DataW Value × List MemPlace)} {b n : Nat} {D : DataW Value} (h : w.ownsMap P k R b n D) : Maps.size D ≤ n := by
  obtain ⟨es, clock, hb, F, hs, rfl⟩ := h
  simpa [Maps.size, length_sorted] using hs
def updI (M : Int → Option Value) (k : Int) (x : Option Value) : Int → Option Value := fun j => if j = k then x else M j
theorem updI_same (M : Int → Option Value) (k : Int) (x : Option Value) : updI M k x k = x := if_pos rfl
theorem updI_other (M : Int → Option Value) {j k : Int} (x : Option Value) (h : j ≠ k) : updI M k x j = M j := if_neg h
/-- A map by numbers, of at most n entries. -/
def IMap (w : World) (bm n : Nat) (M : Int → Option Value) : Prop := ∃ D : DataW Value, w.ownsMap Try.prog 3 heldC bm n D ∧ (∀ k : Int, Maps.has D (.int .i64 k) = (M k).isSome) ∧ ∀ (k : Int) x, M k = some x → ∀ z, D.atKey (.int .i64 k) z = .held x
theorem IMap.same {w w' : World} {bm n : Nat} {M : Int → Option Value} (h : IMap w bm n M) (e : w'.heap[bm]? = w.heap[bm]?) : IMap w' bm n M := by
  obtain ⟨D, ⟨es, clock, hb, F, hs, hD⟩, r⟩ := h
  exact ⟨D, ⟨es, clock, by rw [e]; exact hb, F, hs, hD⟩, r⟩
theorem IMap.lt {w : World} {bm n : Nat} {M : Int → Option Value} (h : IMap w bm n M) : bm < w.heap.size := by
  obtain ⟨D, h, _⟩ := h
  exact World.ownsMap.lt h
theorem IMap.kept {w w' : World} {bm n : Nat} {M : Int → Option Value} {S : List Nat} (h : IMap w bm n M) (hk : Kept S w w') (hn : bm ∉ S) : IMap w' bm n M := h.same (hk.block bm h.lt hn)
theorem IMap.mono {w : World} {bm n n' : Nat} {M : Int → Option Value} (h : IMap w bm n M) (hn : n ≤ n') : IMap w bm n' M := by
  obtain ⟨D, h, r⟩ := h
  exact ⟨D, ownsMap_tightC h (Nat.le_trans (ownsMap_few h) hn), r⟩
theorem IMap.congr {w : World} {bm n : Nat} {M M' : Int → Option Value} (h : IMap w bm n M) (e : ∀ k, M' k = M k) : IMap w bm n M' := by
  rw [show M' = M from funext e]
  exact h
theorem IMap.cells {w : World} {bm n : Nat} {M : Int → Option Value} (h : IMap w bm n M) {T : TypeId} {cur : List Value} (hA : At w bm T cur) : False := by
  obtain ⟨D, ⟨es, clock, hb, _⟩, _⟩ := h
  unfold At at hA
  rw [hA] at hb
  cases hb
theorem IMap.made (w : World) : IMap (w.alloc (.map #[] 0)) w.heap.size 0 (fun _ => none) :=
  ⟨.map [], ownsMap_tightC (World.ownsMap_made w _ _ _) (by simp [Maps.size]), fun _ => rfl, fun _ _ hx => absurd hx (by simp)⟩
theorem IMap.look {w : World} {bm n : Nat} {M : Int → Option Value} (h : IMap w bm n M) {k : Int} (hk : In64 k) {mt vt : TypeId} (hu : Try.prog.underlying mt = some (.map 3 vt)) {zv : Value} (hz : (zeroValue vt).run Try.prog w = .ok zv w) {x : Value} {b : Bool} (hx : (M k).getD zv = x) (hb : (M k).isSome = b) (c : Bool) :
    (Instr.lookup mt (.map (some bm)) (.int .i64 k) c).run Try.prog w = .ok (if c then .tuple #[x, .bool b] else x) w := by
  obtain ⟨D, ho, hh, hv⟩ := h
  have hat : D.atKey (.int .i64 k) (.held zv) = .held x := by
    cases hM : M k with
    | none =>
      rw [hM] at hx
      rw [atKey_of_not_has (by rw [hh k, hM]; rfl)]
      rw [← hx]
      rfl
    | some y =>
      rw [hM] at hx
      rw [hv k y hM]
      rw [← hx]
      rfl
  cases c with
  | true =>
    obtain ⟨v, ps, hrun, hR⟩ := ho.look_ok Try.lawC hu hz (zd := .held zv) (zp := []) rfl (keyC hk)
    have h1 := heldC_inj hR
    rw [hh k, hb] at hrun
    rw [hat] at h1
    rw [DataW.held.inj h1]
    exact hrun
  | false =>
    obtain ⟨v, ps, hrun, hR⟩ := ho.lookup Try.lawC hu hz (zd := .held zv) (zp := []) rfl (keyC hk)
    have h1 := heldC_inj hR
    rw [hat] at h1
    rw [DataW.held.inj h1]
    exact hrun
theorem grown_keptC {w w' : World} {g : Nat} (h : w.grownBy w' (some g)) : Kept [g] w w' := ⟨h.os, h.tape, h.output, h.size, fun k hk hn => h.block k hk (fun e => hn (by simp only [Option.some.injEq] at e; simp [e]))⟩
theorem IMap.put {w : World} {bm n : Nat} {M : Int → Option Value} (h : IMap w bm n M) (hn : n < maxLen) {k : Int} (hk : In64 k) {mt vt : TypeId} (hu : Try.prog.underlying mt = some (.map 3 vt)) (x : Value) (n' : Nat) (hn' : n + (if (M k).isSome then 0 else 1) ≤ n') :
    ∃ w', (Instr.mapUpdate mt (.map (some bm)) (.int .i64 k) x).run Try.prog w = .ok () w' ∧ IMap w' bm n' (updI M k (some x)) ∧ Kept [bm] w w' := by
  obtain ⟨D, ho, hh, hv⟩ := h
  obtain ⟨w', hrun, h1, h2⟩ := ho.update Try.lawC hu hn (keyC hk) (show heldC x = some (.held x, []) from rfl)
  refine ⟨w', hrun, ?_, grown_keptC h2⟩
  have hsz : Maps.size (D.put (.int .i64 k) (.held x)) ≤ n' := by
    have := ownsMap_few ho
    rw [size_put (ho.tidy Try.lawC), hh k]
    cases hM : (M k).isSome <;> simp [hM] at hn' ⊢ <;> omega
  refine ⟨_, ownsMap_tightC h1 hsz, fun j => ?_, fun j y hy z => ?_⟩
  · by_cases e : j = k
    · subst e
      rw [has_put_same ho.isMap (keyLitC _), updI_same]
      rfl
    · rw [has_put_other (litC_ne e), updI_other M _ e]
      exact hh j
  · by_cases e : j = k
    · subst e
      rw [updI_same] at hy
      have hy := Option.some.inj hy
      rw [atKey_put_same ho.isMap (keyLitC _), hy]
    · rw [updI_other M _ e] at hy
      rw [atKey_put_other (litC_ne e)]
      exact hv j y hy z
theorem IMap.del {w : World} {bm n : Nat} {M : Int → Option Value} (h : IMap w bm n M) {k : Int} (hk : In64 k) {mt vt : TypeId} (hu : Try.prog.underlying mt = some (.map 3 vt)) (ty : TypeId) :
    ∃ w', (Builtin.delete_ #[mt, 3] ty #[.map (some bm), .int .i64 k]).run Try.prog w = .ok (.tuple #[]) w' ∧ IMap w' bm n (updI M k none) ∧ Kept [bm] w w' := by
  obtain ⟨D, ho, hh, hv⟩ := h
  obtain ⟨w', hrun, h1, h2⟩ := ho.drop Try.lawC hu (keyC hk) ty
  refine ⟨w', hrun, ?_, grown_keptC h2.grown⟩
  have hsz : Maps.size (D.del (.int .i64 k)) ≤ n := by
    have := ownsMap_few ho
    have h4 := size_del (k := .int .i64 k) (ho.tidy Try.lawC)
    omega
  refine ⟨_, ownsMap_tightC h1 hsz, fun j => ?_, fun j y hy z => ?_⟩
  · by_cases e : j = k
    · subst e
      rw [has_del_same, updI_same]
      rfl
    · rw [has_del_other (litC_ne e), updI_other M _ e]
      exact hh j
  · by_cases e : j = k
    · subst e
      rw [updI_same] at hy
      cases hy
    · rw [updI_other M _ e] at hy
      rw [atKey_del_other (litC_ne e)]
      exact hv j y hy z
end Go.Proofs.Ytcnkcbipkchoiag
