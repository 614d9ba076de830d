import Derived.Test.YtcnkcbipkchoiagU43
import Derived.Test.YtcnkcbipkchoiagU10
import Derived.Maps.OwnSet
import Derived.Maps.Keyed
import Derived.BigRegion
import Derived.Deep.Cut
namespace Go.Proofs.Ytcnkcbipkchoiag
open Go.ChangeShapes Go.WideShapes Go.ChangeAt Go.RowKit Go.Maps
def heldC (v : Value) : Option (DataW Value × List MemPlace) := some (.held v, [])
theorem heldC_inj {v : Value} {x : DataW Value} {ps : List MemPlace} (h : heldC v = some (x, ps)) : x = .held v := by
  unfold heldC at h
  simp at h
  exact h.1.symm
theorem Try.lawC : Keyed Try.prog 3 := int_keyed Try.underlying3
def In64 (k : Int) : Prop := -9223372036854775808 ≤ k ∧ k ≤ 9223372036854775807
theorem keyC {k : Int} (h : In64 k) : keyOf Try.prog 3 (.int .i64 k) = some (.int .i64 k) := keyOf_int_mk Try.underlying3 (WalkArith.wf_i64 h)
theorem keyLitC (k : Int) : WideAt.IsKeyLit (.int .i64 k) := by simp [WideAt.IsKeyLit]
theorem litC_ne {j k : Int} (h : j ≠ k) : Lit.int .i64 j ≠ Lit.int .i64 k := by
  intro e
  injection e with _ e
  exact h e
theorem ownsMap_tightC {w : World} {P : Program} {k : TypeId} {R : Value → Option (DataW Value × List MemPlace)} {b n n' : Nat} {D : DataW Value} (h : w.ownsMap P k R b n D) (hs : Maps.size D ≤ n') : w.ownsMap P k R b n' D := by
  obtain ⟨es, clock, hb, F, _, rfl⟩ := h
  refine ⟨es, clock, hb, F, ?_, rfl⟩
  simpa [Maps.size, length_sorted] using hs
theorem ownsMap_few {w : World} {P : Program} {k : TypeId} {R : Value → Option (DataW Value × List MemPlace)} {b n : Nat} {D : DataW Value} (h : w.ownsMap P k R b n D) : Maps.size D ≤ n := by
  obtain ⟨es, clock, hb, F, hs, rfl⟩ := h
  simpa [Maps.size, length_sorted] using hs
def updI (M : Int → Option Value) (k : Int) (x : Option Value) : Int → Option Value := fun j => if j = k then x else M j
theorem updI_same (M : Int → Option Value) (k : Int) (x : Option Value) : updI M k x k = x := if_pos rfl
theorem updI_other (M : Int → Option Value) {j k : Int} (x : Option Value) (h : j ≠ k) : updI M k x j = M j := if_neg h
/-- A map by numbers, of at most n entries. -/
def IMap (w : World) (bm n : Nat) (M : Int → Option Value) : Prop := ∃ D : DataW Value, w.ownsMap Try.prog 3 heldC bm n D ∧ (∀ k : Int, Maps.has D (.int .i64 k) = (M k).isSome) ∧ ∀ (k : Int) x, M k = some x → ∀ z, D.atKey (.int .i64 k) z = .held x
theorem IMap.same {w w' : World} {bm n : Nat} {M : Int → Option Value} (h : IMap w bm n M) (e : w'.heap[bm]? = w.heap[bm]?) : IMap w' bm n M := by
  obtain ⟨D, ⟨es, clock, hb, F, hs, hD⟩, r⟩ := h
  exact ⟨D, ⟨es, clock, by rw [e]; exact hb, F, hs, hD⟩, r⟩
theorem IMap.lt {w : World} {bm n : Nat} {M : Int → Option Value} (h : IMap w bm n M) : bm < w.heap.size := by
  obtain ⟨D, h, _⟩ := h
  exact World.ownsMap.lt h
theorem IMap.kept {w w' : World} {bm n : Nat} {M : Int → Option Value} {S : List Nat} (h : IMap w bm n M) (hk : Kept S w w') (hn : bm ∉ S) : IMap w' bm n M := h.same (hk.block bm h.lt hn)
theorem IMap.mono {w : World} {bm n n' : Nat} {M : Int → Option Value} (h : IMap w bm n M) (hn : n ≤ n') : IMap w bm n' M := by
  obtain ⟨D, h, r⟩ := h
  exact ⟨D, ownsMap_tightC h (Nat.le_trans (ownsMap_few h) hn), r⟩
theorem IMap.congr {w : World} {bm n : Nat} {M M' : Int → Option Value} (h : IMap w bm n M) (e : ∀ k, M' k = M k) : IMap w bm n M' := by
  rw [show M' = M from funext e]
  exact h
theorem IMap.cells {w : World} {bm n : Nat} {M : Int → Option Value} (h : IMap w bm n M) {T : TypeId} {cur : List Value} (hA : At w bm T cur) : False := by
  obtain ⟨D, ⟨es, clock, hb, _⟩, _⟩ := h
  unfold At at hA
  rw [hA] at hb
  cases hb
theorem IMap.made (w : World) : IMap (w.alloc (.map #[] 0)) w.heap.size 0 (fun _ => none) :=
  ⟨.map [], ownsMap_tightC (World.ownsMap_made w _ _ _) (by simp [Maps.size]), fun _ => rfl, fun _ _ hx => absurd hx (by simp)⟩
theorem IMap.look {w : World} {bm n : Nat} {M : Int → Option Value} (h : IMap w bm n M) {k : Int} (hk : In64 k) {mt vt : TypeId} (hu : Try.prog.underlying mt = some (.map 3 vt)) {zv : Value} (hz : (zeroValue vt).run Try.prog w = .ok zv w) {x : Value} {b : Bool} (hx : (M k).getD zv = x) (hb : (M k).isSome = b) (c : Bool) :
    (Instr.lookup mt (.map (some bm)) (.int .i64 k) c).run Try.prog w = .ok (if c then .tuple #[x, .bool b] else x) w := by
  obtain ⟨D, ho, hh, hv⟩ := h
  have hat : D.atKey (.int .i64 k) (.held zv) = .held x := by
    cases hM : M k with
    | none =>
      rw [hM] at hx
      rw [atKey_of_not_has (by rw [hh k, hM]; rfl)]
      rw [← hx]
      rfl
    | some y =>
      rw [hM] at hx
      rw [hv k y hM]
      rw [← hx]
      rfl
  cases c with
  | true =>
    obtain ⟨v, ps, hrun, hR⟩ := ho.look_ok Try.lawC hu hz (zd := .held zv) (zp := []) rfl (keyC hk)
    have h1 := heldC_inj hR
    rw [hh k, hb] at hrun
    rw [hat] at h1
    rw [DataW.held.inj h1]
    exact hrun
  | false =>
    obtain ⟨v, ps, hrun, hR⟩ := ho.lookup Try.lawC hu hz (zd := .held zv) (zp := []) rfl (keyC hk)
    have h1 := heldC_inj hR
    rw [hat] at h1
    rw [DataW.held.inj h1]
    exact hrun
theorem grown_keptC {w w' : World} {g : Nat} (h : w.grownBy w' (some g)) : Kept [g] w w' := ⟨h.os, h.tape, h.output, h.size, fun k hk hn => h.block k hk (fun e => hn (by simp only [Option.some.injEq] at e; simp [e]))⟩
theorem IMap.put {w : World} {bm n : Nat} {M : Int → Option Value} (h : IMap w bm n M) (hn : n < maxLen) {k : Int} (hk : In64 k) {mt vt : TypeId} (hu : Try.prog.underlying mt = some (.map 3 vt)) (x : Value) (n' : Nat) (hn' : n + (if (M k).isSome then 0 else 1) ≤ n') :
    ∃ w', (Instr.mapUpdate mt (.map (some bm)) (.int .i64 k) x).run Try.prog w = .ok () w' ∧ IMap w' bm n' (updI M k (some x)) ∧ Kept [bm] w w' := by
  obtain ⟨D, ho, hh, hv⟩ := h
  obtain ⟨w', hrun, h1, h2⟩ := ho.update Try.lawC hu hn (keyC hk) (show heldC x = some (.held x, []) from rfl)
  refine ⟨w', hrun, ?_, grown_keptC h2⟩
  have hsz : Maps.size (D.put (.int .i64 k) (.held x)) ≤ n' := by
    have := ownsMap_few ho
    rw [size_put (ho.tidy Try.lawC), hh k]
    cases hM : (M k).isSome <;> simp [hM] at hn' ⊢ <;> omega
  refine ⟨_, ownsMap_tightC h1 hsz, fun j => ?_, fun j y hy z => ?_⟩
  · by_cases e : j = k
    · subst e
      rw [has_put_same ho.isMap (keyLitC _), updI_same]
      rfl
    · rw [has_put_other (litC_ne e), updI_other M _ e]
      exact hh j
  · by_cases e : j = k
    · subst e
      rw [updI_same] at hy
      have hy := Option.some.inj hy
      rw [atKey_put_same ho.isMap (keyLitC _), hy]
    · rw [updI_other M _ e] at hy
      rw [atKey_put_other (litC_ne e)]
      exact hv j y hy z
theorem IMap.del {w : World} {bm n : Nat} {M : Int → Option Value} (h : IMap w bm n M) {k : Int} (hk : In64 k) {mt vt : TypeId} (hu : Try.prog.underlying mt = some (.map 3 vt)) (ty : TypeId) :
    ∃ w', (Builtin.delete_ #[mt, 3] ty #[.map (some bm), .int .i64 k]).run Try.prog w = .ok (.tuple #[]) w' ∧ IMap w' bm n (updI M k none) ∧ Kept [bm] w w' := by
  obtain ⟨D, ho, hh, hv⟩ := h
  obtain ⟨w', hrun, h1, h2⟩ := ho.drop Try.lawC hu (keyC hk) ty
  refine ⟨w', hrun, ?_, grown_keptC h2.grown⟩
  have hsz : Maps.size (D.del (.int .i64 k)) ≤ n := by
    have := ownsMap_few ho
    have h4 := size_del (k := .int .i64 k) (ho.tidy Try.lawC)
    omega
  refine ⟨_, ownsMap_tightC h1 hsz, fun j => ?_, fun j y hy z => ?_⟩
  · by_cases e : j = k
    · subst e
      rw [has_del_same, updI_same]
      rfl
    · rw [has_del_other (litC_ne e), updI_other M _ e]
      exact hh j
  · by_cases e : j = k
    · subst e
      rw [updI_same] at hy
      cases hy
    · rw [updI_other M _ e] at hy
      rw [atKey_del_other (litC_ne e)]
      exact hv j y hy z
end Go.Proofs.Ytcnkcbipkchoiag
namespace Go.Proofs.Ytcnkcbipkchoiag
open Go.ChangeShapes Go.WideShapes Go.ChangeAt Go.RowKit Go.Maps
theorem At.ty {w : World} {b : Nat} {T U : TypeId} {c d : List Value} (h : At w b T c) (g : At w b U d) : T = U := by
  unfold At at h g
  rw [h] at g
  injection g with g
  injection g
structure CoN where
  bu : Nat
  ga : Option Addr
  gc : Nat
  ub : Int → Nat
  mb : Int → Nat
def ptrV (b : Nat) : Value := .pointer (some ⟨b, 0, none⟩)
def LnM.cells (ub : Int → Nat) (l : LnM) : List Value := [ptrV (ub l.who), .int .i64 (l.turn : Int)]
def cellsLn (ub : Int → Nat) (ls : List LnM) : List Value := ls.flatMap (LnM.cells ub)
def usV (N : CoN) (m : CoM) : Int → Option Value := fun k => (m.per k).map fun _ => ptrV (N.ub k)
def opV (who : Int) (ls : List LnM) : Int → Option Value := fun g => if 1 ≤ g ∧ g ≤ (ls.length : Int) ∧ (ls.getD (g.toNat - 1) .zero).who = who ∧ (ls.getD (g.toNat - 1) .zero).shut = false then some (.int .i64 (((ls.getD (g.toNat - 1) .zero).bytes - (ls.getD (g.toNat - 1) .zero).used : Nat) : Int)) else none
def userRow (N : CoN) (m : CoM) (k : Int) (p : PrM) : List Value := [.int .i64 (m.left k p : Nat), .int .i64 (m.lent k : Nat), .int .i64 (m.chgd k : Nat), .int .i64 (p.st : Nat), .int .i64 (p.cell : Nat), .map (some (N.mb k))]
structure PCore (w : World) (c : Nat) (N : CoN) (m : CoM) (n : Nat) : Prop where
  hd : At w c 136 [.int .i64 (m.unit : Int), .map (some N.bu), .slice N.ga m.loans.length N.gc]
  us : IMap w N.bu n (usV N m)
  ur : ∀ k p, m.per k = some p → At w (N.ub k) 145 (userRow N m k p)
  op : ∀ k p, m.per k = some p → IMap w (N.mb k) n (opV k m.loans)
  gr : w.ownsRow 0 156 2 (.slice N.ga m.loans.length N.gc) m.loans.length (cellsLn N.ub m.loans)
  ui : ∀ j k p q, m.per j = some p → m.per k = some q → N.ub j = N.ub k → j = k
  mi : ∀ j k p q, m.per j = some p → m.per k = some q → N.mb j = N.mb k → j = k
  mn : ∀ k p, m.per k = some p → N.mb k ≠ N.bu
  ok : m.Ok n
theorem cellsLn_len (ub : Int → Nat) (ls : List LnM) : (cellsLn ub ls).length = ls.length * 2 := by
  induction ls with
  | nil => rfl
  | cons x ls ih =>
    have e : cellsLn ub (x :: ls) = x.cells ub ++ cellsLn ub ls := rfl
    rw [e, List.length_append, ih, List.length_cons]
    show 2 + _ = _
    omega
theorem cellsLn_at (ub : Int → Nat) : ∀ (ls : List LnM) (i k : Nat), i < ls.length → k < 2 → (cellsLn ub ls)[i * 2 + k]? = ((ls.getD i .zero).cells ub)[k]?
  | [], i, _, h, _ => by simp at h
  | x :: l, 0, k, _, hk => by
    have e : cellsLn ub (x :: l) = x.cells ub ++ cellsLn ub l := rfl
    rw [e, List.getElem?_append_left (by show 0 * 2 + k < 2; omega)]
    simp
  | x :: l, i + 1, k, h, hk => by
    have e : cellsLn ub (x :: l) = x.cells ub ++ cellsLn ub l := rfl
    have ih := cellsLn_at ub l i k (by simpa using h) hk
    have h4 : (x.cells ub).length = 2 := rfl
    rw [e, List.getElem?_append_right (by rw [h4]; omega), h4, show (i + 1) * 2 + k - 2 = i * 2 + k by omega, ih]
    rfl
theorem cellsLn_congr {ub ub' : Int → Nat} {ls ls' : List LnM} (hl : ls'.length = ls.length) (h : ∀ i, i < ls.length → (ls'.getD i .zero).cells ub' = (ls.getD i .zero).cells ub) : cellsLn ub' ls' = cellsLn ub ls := by
  refine List.ext_getElem? fun t => ?_
  by_cases ht : t < ls.length * 2
  · have e1 := cellsLn_at ub' ls' (t / 2) (t % 2) (by omega) (by omega)
    have e2 := cellsLn_at ub ls (t / 2) (t % 2) (by omega) (by omega)
    rw [show t / 2 * 2 + t % 2 = t by omega] at e1 e2
    rw [e1, e2, h _ (by omega)]
  · rw [List.getElem?_eq_none (by rw [cellsLn_len]; omega), List.getElem?_eq_none (by rw [cellsLn_len]; omega)]
/-- The blocks of a core. -/
def coF (c : Nat) (N : CoN) (m : CoM) : List Nat := c :: N.bu :: ((N.ga.map (·.block)).toList ++ (List.range 17).flatMap fun k : Nat => if (m.per (k : Int)).isSome then [N.ub (k : Int), N.mb (k : Int)] else [])
theorem coF_mem {c : Nat} {N : CoN} {m : CoM} {x : Nat} (h : x ∈ coF c N m) : x = c ∨ x = N.bu ∨ (∃ y, N.ga = some y ∧ x = y.block) ∨ ∃ (k : Int) (p : PrM), m.per k = some p ∧ (x = N.ub k ∨ x = N.mb k) := by
  unfold coF at h
  rw [List.mem_cons, List.mem_cons, List.mem_append, List.mem_flatMap] at h
  rcases h with h | h | h | ⟨k, _, h⟩
  · exact .inl h
  · exact .inr (.inl h)
  · cases hg : N.ga with
    | none => rw [hg] at h; simp at h
    | some y => rw [hg] at h; exact .inr (.inr (.inl ⟨y, rfl, by simpa using h⟩))
  · split at h
    · rename_i hs
      obtain ⟨p, hp⟩ := Option.isSome_iff_exists.1 hs
      exact .inr (.inr (.inr ⟨k, p, hp, by simpa using h⟩))
    · simp at h
theorem coF_c (c : Nat) (N : CoN) (m : CoM) : c ∈ coF c N m := List.mem_cons_self
theorem coF_b (c : Nat) (N : CoN) (m : CoM) : N.bu ∈ coF c N m := List.mem_cons_of_mem _ List.mem_cons_self
theorem coF_g {c : Nat} {N : CoN} {m : CoM} {y : Addr} (h : N.ga = some y) : y.block ∈ coF c N m := List.mem_cons_of_mem _ (List.mem_cons_of_mem _ (List.mem_append_left _ (by rw [h]; simp)))
theorem coF_u {c n : Nat} {N : CoN} {m : CoM} {k : Int} {p : PrM} (ho : m.Ok n) (h : m.per k = some p) : N.ub k ∈ coF c N m ∧ N.mb k ∈ coF c N m := by
  obtain ⟨h1, h2, _⟩ := ho.pr k p h
  have key : ∀ x, x = N.ub k ∨ x = N.mb k → x ∈ coF c N m := fun x hx => by
    refine List.mem_cons_of_mem _ (List.mem_cons_of_mem _ (List.mem_append_right _ (List.mem_flatMap.2 ⟨k.toNat, List.mem_range.2 (by omega), ?_⟩)))
    rw [show ((k.toNat : Nat) : Int) = k by omega, h]
    simpa using hx
  exact ⟨key _ (.inl rfl), key _ (.inr rfl)⟩
theorem PCore.gblock {w : World} {c : Nat} {N : CoN} {m : CoM} {n : Nat} (h : PCore w c N m n) {y : Addr} (hy : N.ga = some y) : ∃ cur, y = ⟨y.block, 0, none⟩ ∧ At w y.block 156 cur := by
  obtain ⟨a', c', e, _, _, hx⟩ := row_shape h.gr
  simp only [Value.slice.injEq] at e
  obtain ⟨rfl, -, rfl⟩ := e
  obtain ⟨g, rfl, h2⟩ := hx y hy
  have := h.gr
  rw [hy] at this
  obtain ⟨cur, hA, _⟩ := row_at this
  exact ⟨cur, rfl, hA⟩
theorem PCore.lt {w : World} {c : Nat} {N : CoN} {m : CoM} {n : Nat} (h : PCore w c N m n) : ∀ x ∈ coF c N m, x < w.heap.size := fun x hx => by
  rcases coF_mem hx with rfl | rfl | ⟨y, hy, rfl⟩ | ⟨k, p, hp, rfl | rfl⟩
  · exact h.hd.lt
  · exact h.us.lt
  · obtain ⟨cur, -, hA⟩ := h.gblock hy
    exact hA.lt
  · exact (h.ur k p hp).lt
  · exact (h.op k p hp).lt
theorem PCore.mono {w : World} {c : Nat} {N : CoN} {m : CoM} {n n' : Nat} (h : PCore w c N m n) (hn : n ≤ n') : PCore w c N m n' :=
  ⟨h.hd, h.us.mono hn, h.ur, fun k p hp => (h.op k p hp).mono hn, h.gr, h.ui, h.mi, h.mn, h.ok.mono hn⟩
theorem PCore.kept {w w' : World} {c : Nat} {N : CoN} {m : CoM} {n : Nat} {T : List Nat} (h : PCore w c N m n) (hk : Kept T w w') (hd : ∀ x ∈ coF c N m, x ∉ T) : PCore w' c N m n := by
  refine ⟨h.hd.kept hk (hd _ (coF_c _ _ _)), h.us.kept hk (hd _ (coF_b _ _ _)), fun k p hp => (h.ur k p hp).kept hk (hd _ (coF_u h.ok hp).1), fun k p hp => (h.op k p hp).kept hk (hd _ (coF_u h.ok hp).2), keptRow h.gr hk (fun g hg => ?_), h.ui, h.mi, h.mn, h.ok⟩
  cases hq : N.ga with
  | none => rw [hq] at hg; simp [Value.ownBlock] at hg
  | some y =>
    obtain ⟨cur, he, -⟩ := h.gblock hq
    rw [hq, he] at hg
    simp [Value.ownBlock] at hg
    rw [← hg]
    exact hd _ (coF_g hq)
/-- What lies apart, by its kind. -/
theorem PCore.apart {w : World} {c : Nat} {N : CoN} {m : CoM} {n : Nat} (h : PCore w c N m n) : N.bu ≠ c ∧ (∀ y, N.ga = some y → y.block ≠ c ∧ y.block ≠ N.bu) ∧ ∀ k p, m.per k = some p → N.ub k ≠ c ∧ N.ub k ≠ N.bu ∧ N.mb k ≠ c ∧ N.mb k ≠ N.bu ∧ (∀ y, N.ga = some y → N.ub k ≠ y.block ∧ N.mb k ≠ y.block) ∧ ∀ j q, m.per j = some q → N.ub k ≠ N.mb j := by
  refine ⟨fun e => ?_, fun y hy => ?_, fun k p hp => ⟨fun e => ?_, fun e => ?_, fun e => ?_, h.mn k p hp, fun y hy => ?_, fun j q hq e => ?_⟩⟩
  · have := h.us
    rw [e] at this
    exact this.cells h.hd
  · obtain ⟨cur, -, hA⟩ := h.gblock hy
    refine ⟨fun e => ?_, fun e => ?_⟩
    · rw [e] at hA
      exact absurd (hA.ty h.hd) (by decide)
    · rw [e] at hA
      exact h.us.cells hA
  · have := h.ur k p hp
    rw [e] at this
    exact absurd (this.ty h.hd) (by decide)
  · have := h.ur k p hp
    rw [e] at this
    exact h.us.cells this
  · have := h.op k p hp
    rw [e] at this
    exact this.cells h.hd
  · obtain ⟨cur, -, hA⟩ := h.gblock hy
    refine ⟨fun e => ?_, fun e => ?_⟩
    · rw [← e] at hA
      exact absurd (hA.ty (h.ur k p hp)) (by decide)
    · rw [← e] at hA
      exact (h.op k p hp).cells hA
  · have := h.ur k p hp
    rw [e] at this
    exact (h.op j q hq).cells this
/-- A step that concerns one user. -/
theorem PCore.next {w w' : World} {c : Nat} {N N' : CoN} {m m' : CoM} {n n' : Nat} {S : List Nat} {k : Int} {p p' : PrM} (h : PCore w c N m n) (hp : m.per k = some p) (hk : Kept S w w') (hS : ∀ x ∈ S, x = c ∨ (∃ y, N.ga = some y ∧ x = y.block) ∨ x = N.ub k ∨ x = N.mb k)
    (hb : N'.bu = N.bu) (hu : N'.ub = N.ub) (hm : ∀ j, j ≠ k → N'.mb j = N.mb j) (hmk : N'.mb k = N.mb k ∨ w.heap.size ≤ N'.mb k)
    (hper : ∀ j, m'.per j = if j = k then some p' else m.per j) (hlo : ∀ j, j ≠ k → m'.lent j = m.lent j ∧ m'.chgd j = m.chgd j ∧ opV j m'.loans = opV j m.loans)
    (hd : At w' c 136 [.int .i64 (m'.unit : Int), .map (some N'.bu), .slice N'.ga m'.loans.length N'.gc]) (ur : At w' (N.ub k) 145 (userRow N' m' k p')) (op : IMap w' (N'.mb k) n' (opV k m'.loans))
    (gr : w'.ownsRow 0 156 2 (.slice N'.ga m'.loans.length N'.gc) m'.loans.length (cellsLn N'.ub m'.loans)) (ok : m'.Ok n') (hn : n ≤ n') : PCore w' c N' m' n' := by
  obtain ⟨a1, a2, a3⟩ := h.apart
  have hold : ∀ j q, m'.per j = some q → j ≠ k → m.per j = some q := fun j q hj e => by rw [hper, if_neg e] at hj; exact hj
  have hex : ∀ j q, m'.per j = some q → ∃ q', m.per j = some q' := fun j q hj => by
    by_cases e : j = k
    · exact ⟨p, by rw [e]; exact hp⟩
    · exact ⟨q, hold j q hj e⟩
  refine ⟨hd, ?_, fun j q hj => ?_, fun j q hj => ?_, gr, fun i j q r hi hj e => ?_, fun i j q r hi hj e => ?_, fun j q hj => ?_, ok⟩
  · rw [hb]
    refine ((h.us.kept hk (fun hx => ?_)).mono hn).congr fun j => ?_
    · rcases hS _ hx with e | ⟨y, hy, e⟩ | e | e
      · exact a1 e
      · exact (a2 y hy).2 e.symm
      · exact (a3 k p hp).2.1 e.symm
      · exact (a3 k p hp).2.2.2.1 e.symm
    · unfold usV
      rw [hper, hu]
      split
      · rename_i e
        rw [e, hp]
        rfl
      · rfl
  · rw [hu]
    by_cases e : j = k
    · subst e
      rw [hper, if_pos rfl] at hj
      injection hj with hj
      subst hj
      exact ur
    · have hj' := hold j q hj e
      have e3 := a3 j q hj'
      have : userRow N' m' j q = userRow N m j q := by
        unfold userRow CoM.left
        rw [(hlo j e).1, (hlo j e).2.1, hm j e]
      rw [this]
      refine (h.ur j q hj').kept hk (fun hx => ?_)
      rcases hS _ hx with e' | ⟨y, hy, e'⟩ | e' | e'
      · exact e3.1 e'
      · exact (e3.2.2.2.2.1 y hy).1 e'
      · exact e (h.ui j k q p hj' hp e')
      · exact e3.2.2.2.2.2 k p hp e'
  · by_cases e : j = k
    · subst e
      exact op
    · have hj' := hold j q hj e
      have e3 := a3 j q hj'
      rw [hm j e, (hlo j e).2.2]
      refine ((h.op j q hj').kept hk (fun hx => ?_)).mono hn
      rcases hS _ hx with e' | ⟨y, hy, e'⟩ | e' | e'
      · exact e3.2.2.1 e'
      · exact (e3.2.2.2.2.1 y hy).2 e'
      · exact (a3 k p hp).2.2.2.2.2 j q hj' e'.symm
      · exact e (h.mi j k q p hj' hp e')
  · obtain ⟨q', hi'⟩ := hex i q hi
    obtain ⟨r', hj'⟩ := hex j r hj
    rw [hu] at e
    exact h.ui i j q' r' hi' hj' e
  · obtain ⟨q', hi'⟩ := hex i q hi
    obtain ⟨r', hj'⟩ := hex j r hj
    have l1 := (h.op i q' hi').lt
    have l2 := (h.op j r' hj').lt
    by_cases ei : i = k
    · by_cases ej : j = k
      · rw [ei, ej]
      · rw [ei, hm j ej] at e
        rcases hmk with g | g
        · rw [g] at e
          rw [ei]
          exact h.mi k j p r' hp hj' e
        · omega
    · by_cases ej : j = k
      · rw [ej, hm i ei] at e
        rcases hmk with g | g
        · rw [g] at e
          rw [ej]
          exact h.mi i k q' p hi' hp e
        · omega
      · rw [hm i ei, hm j ej] at e
        exact h.mi i j q' r' hi' hj' e
  · obtain ⟨q', hj'⟩ := hex j q hj
    have l1 := h.us.lt
    rw [hb]
    by_cases ej : j = k
    · rw [ej]
      rcases hmk with g | g
      · rw [g]
        exact h.mn k p hp
      · omega
    · rw [hm j ej]
      exact h.mn j q' hj'
/-- And its blocks. -/
theorem coF_next {w : World} {c : Nat} {N N' : CoN} {m m' : CoM} {n : Nat} {k : Int} {p p' : PrM} (h : PCore w c N m n) (hp : m.per k = some p) (hb : N'.bu = N.bu) (hu : N'.ub = N.ub) (hm : ∀ j, j ≠ k → N'.mb j = N.mb j) (hmk : N'.mb k = N.mb k ∨ w.heap.size ≤ N'.mb k) (hper : ∀ j, m'.per j = if j = k then some p' else m.per j) (hga : ∀ y, N'.ga = some y → N.ga = some y ∨ w.heap.size ≤ y.block) : Grown w.heap.size (coF c N m) (coF c N' m') := fun x hx => by
  rcases coF_mem hx with rfl | rfl | ⟨y, hy, rfl⟩ | ⟨j, q, hq, e⟩
  · exact .inl (coF_c _ _ _)
  · rw [hb]
    exact .inl (coF_b _ _ _)
  · rcases hga y hy with g | g
    · exact .inl (coF_g g)
    · exact .inr g
  · rw [hper] at hq
    rw [hu] at e
    by_cases ej : j = k
    · subst ej
      rcases e with rfl | rfl
      · exact .inl (coF_u h.ok hp).1
      · rcases hmk with g | g
        · rw [g]
          exact .inl (coF_u h.ok hp).2
        · exact .inr g
    · rw [if_neg ej] at hq
      rw [hm j ej] at e
      rcases e with rfl | rfl
      · exact .inl (coF_u h.ok hq).1
      · exact .inl (coF_u h.ok hq).2
/-- Its cells. -/
theorem PCore.head {w : World} {c : Nat} {N : CoN} {m : CoM} {n : Nat} (h : PCore w c N m n) : w.cell? ⟨c, 0, none⟩ = some (.int .i64 (m.unit : Int)) ∧ w.cell? ⟨c, 1, none⟩ = some (.map (some N.bu)) ∧ w.cell? ⟨c, 2, none⟩ = some (.slice N.ga m.loans.length N.gc) := ⟨h.hd.cell 0, h.hd.cell 1, h.hd.cell 2⟩
end Go.Proofs.Ytcnkcbipkchoiag
