import Derived.Test.YtcnkcbipkchoiagU03
import Derived.BigRegion
import Derived.BigQuiet
import Derived.Deep.Cut
import Derived.Maps.AppendAt
namespace Go.Proofs.Ytcnkcbipkchoiag
open Go.ChangeShapes Go.WideShapes Go.ChangeAt Go.RowKit
/-- Numbers that fill a block. -/
def ArrAt (k : IntKind) (T : TypeId) (w : World) (g : Nat) (L : List Int) : Prop := w.heap[g]? = some (.cells (L.map (Value.int k)).toArray T (0, 0))
theorem ArrAt.cell {k : IntKind} {T : TypeId} {w : World} {g : Nat} {L : List Int} (h : ArrAt k T w g L) {j : Nat} (hj : j < L.length) : w.cell? ⟨g, j, none⟩ = some (.int k (L.getD j 0)) := by
  rw [cell_of_row w g j _ T (0, 0) h]
  simp [List.getD, hj]
theorem ArrAt.free {k : IntKind} {T : TypeId} {w : World} {g : Nat} {L : List Int} (h : ArrAt k T w g L) (j : Nat) : w.frozen? ⟨g, j, none⟩ = false := frozen_of_row w g j _ T h
theorem ArrAt.set {k : IntKind} {T : TypeId} {w : World} {g : Nat} {L : List Int} (h : ArrAt k T w g L) (j : Nat) (x : Int) : ArrAt k T (w.setCell ⟨g, j, none⟩ (.int k x)) g (L.set j x) := by
  unfold ArrAt
  rw [heap_setCell_same w g j _ T _ h, List.map_set]
  simp
theorem ArrAt.other {k : IntKind} {T : TypeId} {w : World} {g : Nat} {L : List Int} (h : ArrAt k T w g L) (p : Addr) (v : Value) (hp : g ≠ p.block) : ArrAt k T (w.setCell p v) g L := by
  unfold ArrAt
  rw [heap_setCell_other w p g v hp]
  exact h
theorem ArrAt.below {k : IntKind} {T : TypeId} {w w' : World} {g B : Nat} {L : List Int} (h : ArrAt k T w g L) (hb : Below B w w') (hg : g < B) : ArrAt k T w' g L := (hb.block g hg).trans h
theorem ArrAt.lt {k : IntKind} {T : TypeId} {w : World} {g : Nat} {L : List Int} (h : ArrAt k T w g L) : g < w.heap.size := by
  rcases Nat.lt_or_ge g w.heap.size with e | e
  · exact e
  · have : w.heap[g]? = none := Array.getElem?_eq_none e
    unfold ArrAt at h
    rw [this] at h; cases h
theorem ArrAt.alloc {k : IntKind} {T : TypeId} {w : World} {g : Nat} {L : List Int} (h : ArrAt k T w g L) (o : Obj) : ArrAt k T (w.alloc o) g L := (Below.heap_alloc w o g h.lt).trans h
theorem ArrAt.rd {k : IntKind} {T : TypeId} {w : World} {g : Nat} {A x Z : List Int} (h : ArrAt k T w g (A ++ x ++ Z)) {o : Nat} (ho : o = A.length) : Rd k w (some ⟨g, o, none⟩) x := by
  subst ho
  intro _
  refine ⟨g, A.length, rfl, fun j hj => ?_⟩
  rw [h.cell (by simp; omega)]
  have e : (A ++ x ++ Z).getD (A.length + j) 0 = x.getD j 0 := by
    unfold List.getD
    rw [List.append_assoc, List.getElem?_append_right (by omega), Nat.add_sub_cancel_left, List.getElem?_append_left hj]
  rw [e]
/-- But for the blocks of S the world is as it was. -/
structure Kept (S : List Nat) (w w' : World) : Prop where
  os : w'.os = w.os
  tape : w'.tape = w.tape
  output : w'.output = w.output
  size : w.heap.size ≤ w'.heap.size
  block : ∀ k, k < w.heap.size → k ∉ S → w'.heap[k]? = w.heap[k]?
theorem Kept.refl (S : List Nat) (w : World) : Kept S w w := ⟨rfl, rfl, rfl, Nat.le_refl _, fun _ _ _ => rfl⟩
theorem Kept.trans {S : List Nat} {a b c : World} (h : Kept S a b) (k : Kept S b c) : Kept S a c :=
  ⟨k.os.trans h.os, k.tape.trans h.tape, k.output.trans h.output, Nat.le_trans h.size k.size, fun i hi hn => (k.block i (Nat.lt_of_lt_of_le hi h.size) hn).trans (h.block i hi hn)⟩
theorem Kept.wider {S S' : List Nat} {a b : World} (h : Kept S a b) (hs : ∀ x ∈ S, x ∈ S') : Kept S' a b := ⟨h.os, h.tape, h.output, h.size, fun i hi hn => h.block i hi (fun e => hn (hs i e))⟩
theorem Kept.drew {S : List Nat} {a w : World} (h : Kept S a w) : Kept S a w.drew := ⟨h.os, h.tape, h.output, h.size, h.block⟩
theorem Kept.drewN {S : List Nat} {a w : World} (h : Kept S a w) (n : Nat) : Kept S a (w.drewN n) := ⟨h.os, h.tape, h.output, h.size, h.block⟩
theorem Kept.setCell {S : List Nat} {a w : World} (h : Kept S a w) {p : Addr} (hp : p.block ∈ S) (u : Value) : Kept S a (w.setCell p u) :=
  h.trans ⟨rfl, rfl, rfl, by simp [World.setCell], fun k _ hk => Below.heap_setCell _ _ _ _ (fun e => hk (e ▸ hp))⟩
theorem Kept.alloc {S : List Nat} {a w : World} (h : Kept S a w) (o : Obj) : Kept S a (w.alloc o) := h.trans ⟨rfl, rfl, rfl, by simp, fun k hk _ => Below.heap_alloc _ _ _ hk⟩
theorem Kept.of_below {S : List Nat} {a b : World} (h : Below a.heap.size a b) : Kept S a b := ⟨h.os, h.tape, h.output, h.size, fun k hk _ => h.block k hk⟩
theorem Kept.below {S : List Nat} {a b : World} (h : Kept S a b) {B : Nat} (hB : B ≤ a.heap.size) (hs : ∀ x ∈ S, B ≤ x) : Below B a b := ⟨h.os, h.tape, h.output, h.size, fun k hk => h.block k (by omega) (fun e => by have := hs k e; omega)⟩
theorem Kept.rd {S : List Nat} {a b : World} (h : Kept S a b) {k : IntKind} {ad : Option Addr} {zs : List Int} (hr : Rd k a ad zs) (hs : ∀ g o, ad = some ⟨g, o, none⟩ → g ∉ S) : Rd k b ad zs := by
  intro hne
  obtain ⟨g, o, rfl, hc⟩ := hr hne
  refine ⟨g, o, rfl, fun j hj => ?_⟩
  have hlt := World.block_lt_of_cell? a _ (hc j hj)
  rw [← hc j hj]
  have := h.block g hlt (hs g o rfl)
  simp only [World.cell?, this]
theorem ArrAt.kept {k : IntKind} {T : TypeId} {S : List Nat} {w w' : World} {g : Nat} {L : List Int} (h : ArrAt k T w g L) (hk : Kept S w w') (hg : g ∉ S) : ArrAt k T w' g L := (hk.block g h.lt hg).trans h
end Go.Proofs.Ytcnkcbipkchoiag
namespace Go.Proofs.Ytcnkcbipkchoiag
open Go.ChangeShapes Go.WideShapes Go.ChangeAt Go.RowKit
theorem Try.info3 : (Try.prog.info? 3).map (fun i => (i.zero, i.size, i.bytes)) = some (some (.int .i64 0), 1, 8) := by kernel_rfl
/-- A list of numbers of one's own. -/
def OwnI (w : World) (B : Nat) (v : Value) (L : List Int) : Prop := w.ownsRow B 3 1 v L.length (L.map (Value.int .i64))
theorem OwnI.nil (w : World) (B : Nat) : OwnI w B (.slice none 0 0) [] := World.ownsRow_nil _ _ _ _
theorem OwnI.snoc {w : World} {B : Nat} {v : Value} {L : List Int} {x : Int} (h : w.ownsRow B 3 1 v (L.length + 1) (L.map (Value.int .i64) ++ [.int .i64 x])) : OwnI w B v (L ++ [x]) := by
  unfold OwnI
  rw [List.length_append, List.map_append]
  exact h
theorem ownI_blocks {w : World} {B : Nat} {v : Value} {L : List Int} (h : OwnI w B v L) : ∀ k, v.ownBlock = some k → B ≤ k := fun k hk => (h.lt k hk).1
theorem wpList_pushL {ops : Array Oper} {rest : List Oper} {o : Oper} {a : Act} {Q : Exit → Act → World → Prop} {w0 : World} {v : Value} {L : List Int} (B : Nat) (w00 : World) (y : Int) (hown : OwnI w0 B v L) (hgd : o.guard = none) (s x : Operand)
    (ho : o.op = .call { callee := .builtin .append, args := #[s, x], argTypes := #[36, 36] }) (hs : a.eval s = v)
    (hx : a.eval x = .slice (some ⟨w0.heap.size, 0, none⟩) 1 1) (hlen : L.length < 17592186044416) (hbel : Below B w00 w0) (hB : B ≤ w0.heap.size)
    (h : ∀ v' w', OwnI w' B v' (L ++ [y]) → Below B w00 w' → wpList Try.prog ops Q rest (a.put o.dst v') w') : wpList Try.prog ops Q (o :: rest) a (w0.alloc (.cells #[.int .i64 y] 3)) := by
  obtain ⟨i0, hi, hz0, hz1, hz2⟩ := info_parts Try.info3
  refine wpList_append_own _ hgd s x 36 ho B 3 i0 (.int .i64 0) 1 8 Try.underlying36 hi hz0 hz1 hz2 rfl (by decide) v _ _ hs (World.ownsRow.alloc hown _) ⟨w0.heap.size, 0, none⟩ 1 1 [.int .i64 y] hx rfl (cell_one_new _ _ _) ?_ ?_ ?_ ?_ ?_
  · intro u hu; simp at hu; subst hu; rfl
  · unfold maxLen; omega
  · omega
  · simp; omega
  · intro v' w' h1 h2 _
    exact h v' w' (OwnI.snoc h1) ((hbel.alloc hB _).grown h2 (by simp; omega) (ownI_blocks hown))
theorem wpList_pushI {ops : Array Oper} {rest : List Oper} {o : Oper} {a : Act} {Q : Exit → Act → World → Prop} {w0 : World} {v : Value} {L : List Int} (B : Nat) (w00 : World) (y : Int) (hown : OwnI w0 B v L) (hgd : o.guard = none) (s x : Operand)
    (ho : o.op = .call { callee := .builtin .append, args := #[s, x], argTypes := #[36, 36] }) (hs : a.eval s = v)
    (hx : a.eval x = .slice (some ⟨w0.heap.size, 0, none⟩) 1 1) (hlen : L.length < 8796093022208) (hbel : Below B w00 w0) (hB : B ≤ w0.heap.size)
    (h : ∀ v' w', OwnI w' B v' (L ++ [y]) → Below B w00 w' → wpList Try.prog ops Q rest (a.put o.dst v') w') : wpList Try.prog ops Q (o :: rest) a (w0.alloc (.cells #[.int .i64 y] 3)) :=
  wpList_pushL B w00 y hown hgd s x ho hs hx (Nat.lt_trans hlen (by decide)) hbel hB h
theorem OwnI.rd {w : World} {B n c : Nat} {a : Option Addr} {L : List Int} (h : OwnI w B (.slice a n c) L) : Rd .i64 w a L := Rd.own h
theorem OwnI.shape {w : World} {B : Nat} {v : Value} {L : List Int} (h : OwnI w B v L) : ∃ a c, v = .slice a L.length c ∧ L.length ≤ c ∧ c ≤ maxLen := by
  rcases h.2 with ⟨rfl, h0⟩ | ⟨g, cap, cur, rfl, _, _, h1, h2, _⟩
  · exact ⟨none, 0, by rw [h0], by omega, by unfold maxLen; omega⟩
  · exact ⟨_, cap, rfl, h1, h2⟩
theorem OwnI.below {w w' : World} {B : Nat} {v : Value} {L : List Int} (h : OwnI w B v L) (hb : Below w.heap.size w w') : OwnI w' B v L := by
  refine ⟨h.1, ?_⟩
  rcases h.2 with h' | ⟨g, cap, cur, h1, h2, h3, h4⟩
  · exact .inl h'
  · have hlt : g < w.heap.size := by
      rcases Nat.lt_or_ge g w.heap.size with hl | hl
      · exact hl
      · rw [Array.getElem?_eq_none hl] at h3; cases h3
    exact .inr ⟨g, cap, cur, h1, h2, (hb.block g hlt).trans h3, h4⟩
theorem OwnI.mono {w : World} {B B' : Nat} {v : Value} {L : List Int} (h : OwnI w B v L) (hB : B' ≤ B) : OwnI w B' v L := by
  refine ⟨h.1, ?_⟩
  rcases h.2 with h' | ⟨g, cap, cur, h1, h2, h3⟩
  · exact .inl h'
  · exact .inr ⟨g, cap, cur, h1, by omega, h3⟩
theorem OwnI.len {w : World} {B g N c : Nat} {L : List Int} (h : OwnI w B (.slice (some ⟨g, 0, none⟩) N c) L) : L.length = N := by
  rcases h.2 with ⟨h', _⟩ | ⟨g', cap, cur, h', _⟩
  · simp at h'
  · simp only [Value.slice.injEq] at h'
    exact h'.2.1.symm
theorem OwnI.block {w : World} {B g N c : Nat} {L : List Int} (h : OwnI w B (.slice (some ⟨g, 0, none⟩) N c) L) : B ≤ g ∧ g < w.heap.size := h.lt g rfl
end Go.Proofs.Ytcnkcbipkchoiag
namespace Go.Proofs.Ytcnkcbipkchoiag
open Go.ChangeShapes Go.WideShapes Go.ChangeAt Go.RowKit
def PieceM.cells (p : PieceM) : List Value := [.int .i64 p.num, .int .i64 p.frm, .bool p.last, .string p.data]
def PieceM.val (p : PieceM) : Value := .agg #[.int .i64 p.num, .int .i64 p.frm, .bool p.last, .string p.data]
def GapM.cells (g : GapM) : List Value := [.int .i64 g.num, .int .i64 g.frm, .int .i64 g.til]
def GapM.zero : GapM := ⟨0, 0, 0⟩
/-- Texts that can be read. -/
def Txs (w : World) (a : Option Addr) (l : List ByteArray) : Prop := l ≠ [] → ∃ b o, a = some ⟨b, o, none⟩ ∧ ∀ i, i < l.length → w.cell? ⟨b, o + i, none⟩ = some (.string (l.getD i ByteArray.empty))
theorem Txs.at {w : World} {a : Option Addr} {l : List ByteArray} (h : Txs w a l) {i : Nat} (hi : i < l.length) : ∃ b o, a = some ⟨b, o, none⟩ ∧ ∀ i, i < l.length → w.cell? ⟨b, o + i, none⟩ = some (.string (l.getD i ByteArray.empty)) := h (by rintro rfl; simp at hi)
/-- Gaps that can be read. -/
def Gps (w : World) (a : Option Addr) (l : List GapM) : Prop := l ≠ [] → ∃ b o, a = some ⟨b, o, none⟩ ∧ ∀ i, i < l.length → w.cell? ⟨b, o + i * 3, none⟩ = some (.int .i64 (l.getD i .zero).num) ∧ w.cell? ⟨b, o + i * 3 + 1, none⟩ = some (.int .i64 (l.getD i .zero).frm) ∧ w.cell? ⟨b, o + i * 3 + 2, none⟩ = some (.int .i64 (l.getD i .zero).til)
/-- It lies in new memory. -/
def NewAt (n : Nat) (a : Option Addr) : Prop := ∀ x, a = some x → n ≤ x.block
def NotIn (F : List Nat) (a : Option Addr) : Prop := ∀ x, a = some x → x.block ∉ F
def Grown (n : Nat) (F F' : List Nat) : Prop := ∀ x ∈ F', x ∈ F ∨ n ≤ x
theorem keptCellQ {S : List Nat} {w w' : World} (hk : Kept S w w') {a : Addr} {v : Value} (h : w.cell? a = some v) (hn : a.block ∉ S) : w'.cell? a = some v := (World.cell?_of_block (hk.block a.block (World.block_lt_of_cell? w a h) hn)).trans h
theorem Txs.kept {w w' : World} {a : Option Addr} {l : List ByteArray} {S : List Nat} (h : Txs w a l) (hk : Kept S w w') (hn : NotIn S a) : Txs w' a l := by
  intro hne
  obtain ⟨b, o, rfl, hC⟩ := h hne
  exact ⟨b, o, rfl, fun i hi => keptCellQ hk (hC i hi) (hn ⟨b, o, none⟩ rfl)⟩
theorem Gps.kept {w w' : World} {a : Option Addr} {l : List GapM} {S : List Nat} (h : Gps w a l) (hk : Kept S w w') (hn : NotIn S a) : Gps w' a l := by
  intro hne
  obtain ⟨b, o, rfl, hC⟩ := h hne
  exact ⟨b, o, rfl, fun i hi => ⟨keptCellQ hk (hC i hi).1 (hn ⟨b, o, none⟩ rfl), keptCellQ hk (hC i hi).2.1 (hn ⟨b, o, none⟩ rfl), keptCellQ hk (hC i hi).2.2 (hn ⟨b, o, none⟩ rfl)⟩⟩
/-- How long, at the most, a text is. -/
def manyB : Nat := 140737488355328
end Go.Proofs.Ytcnkcbipkchoiag
namespace Go.Proofs.Ytcnkcbipkchoiag
open Go.ChangeShapes Go.WideShapes Go.ChangeAt Go.RowKit
theorem Grown.out {F F' : List Nat} {n x : Nat} (h : Grown n F F') (hx : x ∉ F) (hl : x < n) : x ∉ F' := fun e => by
  rcases h x e with g | g
  · exact hx g
  · omega
theorem Grown.low {B : Nat} {F F' : List Nat} {n : Nat} (h : Grown n F F') (hb : ∀ x ∈ F, B ≤ x) (hl : B ≤ n) : ∀ x ∈ F', B ≤ x := fun x hx => by
  rcases h x hx with g | g
  · exact hb x g
  · omega
end Go.Proofs.Ytcnkcbipkchoiag
namespace Go.Proofs.Ytcnkcbipkchoiag
open Go.ChangeShapes Go.WideShapes Go.ChangeAt Go.RowKit
theorem emp_falseR {s : ByteArray} (h : s.size ≠ 0) : s.toList.isEmpty = false := by
  rw [ByteArray.toList_eq]
  cases hq : s.data.toList with
  | nil =>
    have e : s.data.toList.length = s.size := by rw [Array.length_toList]; rfl
    rw [hq] at e
    simp at e
    omega
  | cons x l => rfl
end Go.Proofs.Ytcnkcbipkchoiag
namespace Go.Proofs.Ytcnkcbipkchoiag
open Go.ChangeShapes Go.WideShapes Go.ChangeAt Go.RowKit
theorem keptRow {S : List Nat} {w w' : World} {B n k : Nat} {T : TypeId} {v : Value} {xs : List Value} (h : w.ownsRow B T k v n xs) (hk : Kept S w w') (hs : ∀ g, v.ownBlock = some g → g ∉ S) : w'.ownsRow B T k v n xs := by
  refine ⟨h.1, ?_⟩
  rcases h.2 with h' | ⟨g, cap, cur, h1, h2, h3, h4⟩
  · exact .inl h'
  · have hlt : g < w.heap.size := (Array.getElem?_eq_some_iff.1 h3).1
    exact .inr ⟨g, cap, cur, h1, h2, (hk.block g hlt (hs g (by rw [h1]; rfl))).trans h3, h4⟩
theorem Kept.grownR {w w' : World} {row : Option Nat} (h : w.grownBy w' row) : Kept row.toList w w' := ⟨h.os, h.tape, h.output, h.size, fun k hk hn => h.block k hk (fun e => hn (by rw [← e]; simp))⟩
theorem step_pushR {W : World} {ops : Array Oper} {o : Oper} {a : Act} {K : Act → World → Prop} {Q : Exit → Act → World → Prop} {E : Prop} {v z : Value} {xs news : List Value} {n size bytes : Nat} {t e : TypeId} {i0 : TypeInfo} (B g : Nat) (ht : Try.prog.underlying t = some (.slice e)) (hi : Try.prog.info? e = some i0) (hz : i0.zero = some z) (hsz : i0.size = size) (hby : i0.bytes = bytes) (hzs : z.cells.size = size) (h0 : 0 < size)
    (hown : W.ownsRow B e size v n xs) (hgd : o.guard = none) (s x : Operand) (ho : o.op = .call { callee := .builtin .append, args := #[s, x], argTypes := #[t, t] }) (hs : a.eval s = v) (hx : a.eval x = .slice (some ⟨g, 0, none⟩) 1 1) (hl : news.length = 1 * size) (hc : ∀ (k : Nat) u, news[k]? = some u → W.cell? ⟨g, k, none⟩ = some u) (h1 : ∀ u ∈ news, u.oneCell' = true) (h63 : n + 1 ≤ maxLen) (hlen : (n + 1) * bytes ≤ 140737488355328) (hB : B ≤ W.heap.size)
    (h : ∀ v' w', w'.ownsRow B e size v' (n + 1) (xs ++ news) → W.grownBy w' v.ownBlock → (v'.ownBlock = v.ownBlock ∨ v'.ownBlock = some W.heap.size) → K (a.put o.dst v') w') : if Region.wanted o (yielded ops a.tmps) = true then Oper.wp Try.prog o a W K Q else E := by
  have hw : Region.wanted o (yielded ops a.tmps) = true := by simp [Region.wanted, hgd]
  rw [if_pos hw]
  obtain ⟨v', w', hr, h2, h3, _, h4⟩ := run_append_own_at (P := Try.prog) (w := W) B t o.type e i0 z size bytes ht hi hz hsz hby hzs h0 v n xs hown ⟨g, 0, none⟩ 1 1 news hl (fun j u hj => by rw [Addr.add_lit, Nat.zero_add]; exact hc j u hj) h1 h63 hlen hB
  unfold Oper.wp execOp
  simp only [ho, resolve, invoke, builtin, Sem.run_bind, Sem.run_pure, Result.andThen_ok, List.map_toArray, List.map_cons, List.map_nil, hs, hx, hr]
  exact h v' w' h2 h3 h4
theorem wpList_pushR {W : World} {ops : Array Oper} {rest : List Oper} {o : Oper} {a : Act} {Q : Exit → Act → World → Prop} {v z : Value} {xs news : List Value} {n size bytes : Nat} {t e : TypeId} {i0 : TypeInfo} (B g : Nat) (ht : Try.prog.underlying t = some (.slice e)) (hi : Try.prog.info? e = some i0) (hz : i0.zero = some z) (hsz : i0.size = size) (hby : i0.bytes = bytes) (hzs : z.cells.size = size) (h0 : 0 < size)
    (hown : W.ownsRow B e size v n xs) (hgd : o.guard = none) (s x : Operand) (ho : o.op = .call { callee := .builtin .append, args := #[s, x], argTypes := #[t, t] }) (hs : a.eval s = v) (hx : a.eval x = .slice (some ⟨g, 0, none⟩) 1 1) (hl : news.length = 1 * size) (hc : ∀ (k : Nat) u, news[k]? = some u → W.cell? ⟨g, k, none⟩ = some u) (h1 : ∀ u ∈ news, u.oneCell' = true) (h63 : n + 1 ≤ maxLen) (hlen : (n + 1) * bytes ≤ 140737488355328) (hB : B ≤ W.heap.size)
    (h : ∀ v' w', w'.ownsRow B e size v' (n + 1) (xs ++ news) → W.grownBy w' v.ownBlock → (v'.ownBlock = v.ownBlock ∨ v'.ownBlock = some W.heap.size) → wpList Try.prog ops Q rest (a.put o.dst v') w') : wpList Try.prog ops Q (o :: rest) a W :=
  wpList_append_own_at W hgd s x t ho B e i0 z size bytes ht hi hz hsz hby hzs h0 v n xs hs hown ⟨g, 0, none⟩ 1 1 news hx hl (fun j u hj => by rw [Addr.add_lit, Nat.zero_add]; exact hc j u hj) h1 h63 hlen hB (fun v' w' h2 h3 _ h4 => h v' w' h2 h3 h4)
theorem row_shape {w : World} {B n k : Nat} {T : TypeId} {v : Value} {xs : List Value} (h : w.ownsRow B T k v n xs) : ∃ a c, v = .slice a n c ∧ n ≤ c ∧ c ≤ maxLen ∧ (∀ x, a = some x → ∃ g, x = ⟨g, 0, none⟩ ∧ v.ownBlock = some g) := by
  rcases h.2 with ⟨rfl, rfl⟩ | ⟨g, cap, cur, rfl, _, _, h1, h2, _⟩
  · exact ⟨none, 0, rfl, Nat.le_refl _, by unfold maxLen; omega, fun x e => (by cases e)⟩
  · exact ⟨_, cap, rfl, h1, h2, fun x e => ⟨g, (Option.some.inj e).symm, rfl⟩⟩
theorem row_txs {w : World} {B n c : Nat} {T : TypeId} {a : Option Addr} {l : List ByteArray} (h : w.ownsRow B T 1 (.slice a n c) l.length (l.map Value.string)) : Txs w a l := by
  intro hne
  rcases h.2 with ⟨h', h0⟩ | ⟨g, cap, cur, h', _, hg, _, _, _, ht⟩
  · exact absurd (List.length_eq_zero_iff.1 h0) hne
  · simp only [Value.slice.injEq] at h'
    obtain ⟨rfl, _, _⟩ := h'
    refine ⟨g, 0, rfl, fun i hi => ?_⟩
    have hat : cur[i]? = (l.map Value.string)[i]? := by
      rw [← ht, List.getElem?_take_of_lt (by omega)]
      simp
    rw [Nat.zero_add, cell_of_row _ _ _ _ _ _ hg, hat]
    simp [List.getD, hi]
theorem Try.infoTx : (Try.prog.info? 9).map (fun i => (i.zero, i.size, i.bytes)) = some (some (.string { data := #[] }), 1, 16) := by kernel_rfl
end Go.Proofs.Ytcnkcbipkchoiag
