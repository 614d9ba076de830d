import Derived.Test.YtcnkcbipkchoiagU04
import Derived.Laws.CopyOwn
import Derived.Deep.RegionLaw
import Derived.Lib.Overlaps
import Derived.Laws.Externs
import Derived.Deep.Cut
import Derived.BigRegion
namespace Go.Proofs.Ytcnkcbipkchoiag
open Go.ChangeShapes Go.WideShapes Go.ChangeAt Go.RowKit
/-- A block's row. -/
def At (w : World) (b : Nat) (T : TypeId) (cur : List Value) : Prop := w.heap[b]? = some (.cells cur.toArray T (0, 0))
theorem At.lt {w : World} {b : Nat} {T : TypeId} {cur : List Value} (h : At w b T cur) : b < w.heap.size := (Array.getElem?_eq_some_iff.1 h).1
theorem At.set {w : World} {b : Nat} {T : TypeId} {cur new : List Value} (h : At w b T cur) : At (w.setRow b new.toArray) b T new := setRow_heap w b _ _ T _ h
theorem At.other {w : World} {b g : Nat} {T : TypeId} {cur : List Value} (h : At w b T cur) (hne : b ≠ g) (x : Array Value) : At (w.setRow g x) b T cur := (setRow_other w g b x hne).trans h
theorem At.kept {w w' : World} {b : Nat} {T : TypeId} {cur : List Value} {S : List Nat} (h : At w b T cur) (hk : Kept S w w') (hn : b ∉ S) : At w' b T cur := (hk.block b h.lt hn).trans h
theorem At.cell {w : World} {b : Nat} {T : TypeId} {cur : List Value} (h : At w b T cur) (j : Nat) : w.cell? ⟨b, j, none⟩ = cur[j]? := by
  rw [cell_of_row _ _ _ _ _ _ h]
  simp
theorem At.free {w : World} {b : Nat} {T : TypeId} {cur : List Value} (h : At w b T cur) (j : Nat) : w.frozen? ⟨b, j, none⟩ = false := frozen_of_row w b j _ T h
theorem At.src {w : World} {b : Nat} {T : TypeId} {cur : List Value} (h : At w b T cur) (o : Nat) {cs : List Value} (hc : ∀ j, j < cs.length → cs[j]? = cur[o + j]?) : ∀ j v, cs[j]? = some v → w.cell? ((⟨b, o, none⟩ : Addr).add j) = some v := fun j v hj => by
  have hl := (List.getElem?_eq_some_iff.1 hj).1
  rw [Addr.add_lit, h.cell, ← hc j hl, hj]
theorem kept_setRow (w : World) (b : Nat) (x : Array Value) : Kept [b] w (w.setRow b x) := ⟨rfl, rfl, rfl, by simp [World.setRow], fun k _ hn => setRow_other w b k x (by simpa using hn)⟩
theorem At.row {w : World} {g n c k : Nat} {T : TypeId} {cur xs : List Value} (h : At w g T cur) (hl : xs.length = n * k) (hn : n ≤ c) (hc : c ≤ maxLen) (hs : cur.length = c * k) (ht : cur.take (n * k) = xs) : w.ownsRow 0 T k (.slice (some ⟨g, 0, none⟩) n c) n xs :=
  ⟨hl, .inr ⟨g, c, cur.toArray, rfl, Nat.zero_le _, h, hn, hc, by simpa using hs, by simpa using ht⟩⟩
theorem row_at {w : World} {B g n c k : Nat} {T : TypeId} {xs : List Value} {m : Nat} (h : w.ownsRow B T k (.slice (some ⟨g, 0, none⟩) m c) n xs) : ∃ cur, At w g T cur ∧ m = n ∧ n ≤ c ∧ c ≤ maxLen ∧ cur.length = c * k ∧ cur.take (n * k) = xs ∧ xs.length = n * k := by
  rcases h.2 with ⟨h', _⟩ | ⟨g', cap, cur, h', _, hg, h1, h2, h3, h4⟩
  · simp at h'
  · simp only [Value.slice.injEq, Option.some.injEq, Addr.mk.injEq] at h'
    obtain ⟨⟨rfl, -, -⟩, rfl, rfl⟩ := h'
    refine ⟨cur.toList, ?_, rfl, h1, h2, by simpa using h3, h4, h.1⟩
    unfold At
    rw [Array.toArray_toList]
    exact hg
theorem row_len {w : World} {B n c k : Nat} {T : TypeId} {xs : List Value} {m : Nat} {a : Option Addr} (h : w.ownsRow B T k (.slice a m c) n xs) : m = n := by
  rcases h.2 with ⟨h', h0⟩ | ⟨g', cap, cur, h', _, hg, h1, h2, h3, h4⟩
  · simp only [Value.slice.injEq] at h'
    omega
  · simp only [Value.slice.injEq] at h'
    exact h'.2.1
theorem run_copyK {P : Program} (w : World) (dT sT ty elem tb : TypeId) (k g o dLen dCap : Nat) (a : Addr) (sLen sCap : Nat) (cur cs : List Value)
    (hu : P.underlying dT = some (.slice elem)) (hs : (P.info? elem).map (·.size) = some k)
    (hg : At w g tb cur) (hn : cs.length = Nat.min sLen dLen * k)
    (hsrc : ∀ j v, cs[j]? = some v → w.cell? (a.add j) = some v) (hfit : o + cs.length ≤ cur.length) (h1 : ∀ v ∈ cs, v.oneCell' = true) :
    (Builtin.copy_ #[dT, sT] ty #[.slice (some ⟨g, o, none⟩) dLen dCap, .slice (some a) sLen sCap]).run P w =
      .ok (goInt (Nat.min sLen dLen)) (w.setRow g (splice cur o cs).toArray) := by
  have hl := run_loadCells_list (P := P) w a cs hsrc
  have hst := run_storeCells_at P g o tb cs 0 cur.toArray w hg (by simpa using hfit) h1
  cases hq : P.info? elem with
  | none => simp [hq] at hs
  | some i =>
    have hi : i.size = k := by simpa [hq] using hs
    simp only [Nat.add_zero] at hst
    simp [Builtin.copy_, run_underlying hu, Builtin.lenOf, Builtin.firstCells, sizeOf, typeInfo, hq, hi, ← hn, hl, hst, splice]
theorem run_clearK {P : Program} (w : World) (t e ty tb : TypeId) (i : TypeInfo) (z : Value) (ht : P.underlying t = some (.slice e)) (hi : P.info? e = some i) (hz : i.zero = some z) (g o n c : Nat) (cur : List Value) (hg : At w g tb cur) (hn : 0 < n)
    (hfit : o + n * z.cells.size ≤ cur.length) (h1 : ∀ v ∈ (Builtin.zeroCells z.cells n).toList, v.oneCell' = true) :
    (Builtin.clear_ #[t] ty #[.slice (some ⟨g, o, none⟩) n c]).run P w = .ok (.tuple #[]) (w.setRow g (splice cur o (Builtin.zeroCells z.cells n).toList).toArray) := by
  have hl : (Builtin.zeroCells z.cells n).toList.length = n * z.cells.size := by rw [Array.length_toList, size_zeroCells]
  have hst := run_storeCells_at P g o tb (Builtin.zeroCells z.cells n).toList 0 cur.toArray w hg (by rw [hl]; simpa using hfit) h1
  simp only [Nat.add_zero] at hst
  obtain ⟨m, rfl⟩ : ∃ m, n = m + 1 := ⟨n - 1, by omega⟩
  simp [Builtin.clear_, run_underlying ht, zeroValue, typeInfo, hi, hz, hst, splice]
theorem run_clear0 {P : Program} (w : World) (t e ty : TypeId) (ht : P.underlying t = some (.slice e)) (a : Option Addr) (c : Nat) : (Builtin.clear_ #[t] ty #[.slice a 0 c]).run P w = .ok (.tuple #[]) w := by
  cases a <;> simp [Builtin.clear_, run_underlying ht]
theorem bi_append {P : Program} {w w' : World} {ts : Array TypeId} {ty : TypeId} {args : Array Value} {v : Value} (h : (Builtin.append_ ts ty args).run P w = .ok v w') : ∀ cs, (builtin .append ts ty cs args).run P w = .ok (.value v) w' := fun cs => by simp [builtin, h]
theorem bi_copy {P : Program} {w w' : World} {ts : Array TypeId} {ty : TypeId} {args : Array Value} {v : Value} (h : (Builtin.copy_ ts ty args).run P w = .ok v w') : ∀ cs, (builtin .copy ts ty cs args).run P w = .ok (.value v) w' := fun cs => by simp [builtin, h]
theorem zero_mem {z : Array Value} {n : Nat} {v : Value} (h : v ∈ (Builtin.zeroCells z n).toList) : v ∈ z := by
  simp only [Builtin.zeroCells, Array.toList_map, List.mem_map] at h
  obtain ⟨i, hi, rfl⟩ := h
  have h0 : i < n * z.size := by simpa using hi
  have h1 : 0 < z.size := by
    rcases Nat.eq_zero_or_pos z.size with e | e
    · rw [e] at h0; omega
    · exact e
  have h2 := Nat.mod_lt i h1
  rw [getElem!_pos z _ h2]
  exact Array.getElem_mem h2
theorem wpList_bi2 {P : Program} (w : World) {ops : Array Oper} {rest : List Oper} {o : Oper} {a : Act} {Q : Exit → Act → World → Prop} (hgd : o.guard = none) (bi : Builtin) (s x : Operand) (t tn : TypeId)
    (ho : o.op = .call { callee := .builtin bi, args := #[s, x], argTypes := #[t, tn] }) (vs vx : Value) (hs : a.eval s = vs) (hx : a.eval x = vx) {v' : Value} {w' : World}
    (hr : ∀ cs, (builtin bi #[t, tn] o.type cs #[vs, vx]).run P w = .ok (.value v') w') (h : wpList P ops Q rest (a.put o.dst v') w') : wpList P ops Q (o :: rest) a w := by
  refine wpList_plain hgd fun K hK => ?_
  unfold Oper.wp execOp
  simp only [ho, resolve, invoke, Sem.run_bind, Sem.run_pure, Result.andThen_ok, List.map_toArray, List.map_cons, List.map_nil, hs, hx, hr]
  exact hK _ _ h
theorem step_bi2 {P : Program} {ops : Array Oper} {o : Oper} {a : Act} {w : World} {K : Act → World → Prop} {Q : Exit → Act → World → Prop} {E : Prop} (hgd : o.guard = none) (bi : Builtin) (s x : Operand) (t tn : TypeId)
    (ho : o.op = .call { callee := .builtin bi, args := #[s, x], argTypes := #[t, tn] }) (vs vx : Value) (hs : a.eval s = vs) (hx : a.eval x = vx) {v' : Value} {w' : World}
    (hr : ∀ cs, (builtin bi #[t, tn] o.type cs #[vs, vx]).run P w = .ok (.value v') w') (h : K (a.put o.dst v') w') : if Region.wanted o (yielded ops a.tmps) = true then Oper.wp P o a w K Q else E := by
  have hw : Region.wanted o (yielded ops a.tmps) = true := by simp [Region.wanted, hgd]
  rw [if_pos hw]
  unfold Oper.wp execOp
  simp only [ho, resolve, invoke, Sem.run_bind, Sem.run_pure, Result.andThen_ok, List.map_toArray, List.map_cons, List.map_nil, hs, hx, hr]
  exact h
theorem Try.infoSp : (Try.prog.info? 172).map (fun i => (i.zero, i.size, i.bytes)) = some (some (.agg #[.int .i64 0, .int .i64 0]), 2, 16) := by kernel_rfl
theorem Try.infoTk : (Try.prog.info? 180).map (fun i => (i.zero, i.size, i.bytes)) = some (some (.agg #[.slice none 0 0, .slice none 0 0, .int .i64 0]), 3, 56) := by kernel_rfl
theorem Try.infoSd : (Try.prog.info? 168).map (fun i => (i.zero, i.size, i.bytes)) = some (some (.agg #[.string { data := #[] }, .int .i64 0, .slice none 0 0, .bool false]), 4, 56) := by kernel_rfl
end Go.Proofs.Ytcnkcbipkchoiag
