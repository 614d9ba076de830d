import Derived.Test.YtcnkcbipkchoiagK04
import Derived.BigRegion
import Derived.BigQuiet
import Derived.Deep.Cut
import Derived.Maps.AppendAt
import Derived.Laws.CopyOwn
import Derived.Deep.RegionLaw
import Derived.Lib.Overlaps
import Derived.Laws.Externs
import Derived.Lib.AppendZerosOnto
import Derived.Test.YtcnkcbipkchoiagK02
namespace Go.Proofs.Ytcnkcbipkchoiag
open Go.ChangeShapes Go.WideShapes Go.ChangeAt Go.RowKit
theorem Try.info3 : (Try.prog.info? 3).map (fun i => (i.zero, i.size, i.bytes)) = some (some (.int .i64 0), 1, 8) := by kernel_rfl
/-- A list of numbers of one's own. -/
def OwnI (w : World) (B : Nat) (v : Value) (L : List Int) : Prop := w.ownsRow B 3 1 v L.length (L.map (Value.int .i64))
theorem OwnI.nil (w : World) (B : Nat) : OwnI w B (.slice none 0 0) [] := World.ownsRow_nil _ _ _ _
theorem OwnI.snoc {w : World} {B : Nat} {v : Value} {L : List Int} {x : Int} (h : w.ownsRow B 3 1 v (L.length + 1) (L.map (Value.int .i64) ++ [.int .i64 x])) : OwnI w B v (L ++ [x]) := by
  unfold OwnI
  rw [List.length_append, List.map_append]
  exact h
theorem ownI_blocks {w : World} {B : Nat} {v : Value} {L : List Int} (h : OwnI w B v L) : ∀ k, v.ownBlock = some k → B ≤ k := fun k hk => (h.lt k hk).1
theorem wpList_pushL {ops : Array Oper} {rest : List Oper} {o : Oper} {a : Act} {Q : Exit → Act → World → Prop} {w0 : World} {v : Value} {L : List Int} (B : Nat) (w00 : World) (y : Int) (hown : OwnI w0 B v L) (hgd : o.guard = none) (s x : Operand)
    (ho : o.op = .call { callee := .builtin .append, args := #[s, x], argTypes := #[36, 36] }) (hs : a.eval s = v)
    (hx : a.eval x = .slice (some ⟨w0.heap.size, 0, none⟩) 1 1) (hlen : L.length < 17592186044416) (hbel : Below B w00 w0) (hB : B ≤ w0.heap.size)
    (h : ∀ v' w', OwnI w' B v' (L ++ [y]) → Below B w00 w' → wpList Try.prog ops Q rest (a.put o.dst v') w') : wpList Try.prog ops Q (o :: rest) a (w0.alloc (.cells #[.int .i64 y] 3)) := by
  obtain ⟨i0, hi, hz0, hz1, hz2⟩ := info_parts Try.info3
  refine wpList_append_own _ hgd s x 36 ho B 3 i0 (.int .i64 0) 1 8 Try.underlying36 hi hz0 hz1 hz2 rfl (by decide) v _ _ hs (World.ownsRow.alloc hown _) ⟨w0.heap.size, 0, none⟩ 1 1 [.int .i64 y] hx rfl (cell_one_new _ _ _) ?_ ?_ ?_ ?_ ?_
  · intro u hu; simp at hu; subst hu; rfl
  · unfold maxLen; omega
  · omega
  · simp; omega
  · intro v' w' h1 h2 _
    exact h v' w' (OwnI.snoc h1) ((hbel.alloc hB _).grown h2 (by simp; omega) (ownI_blocks hown))
theorem wpList_pushI {ops : Array Oper} {rest : List Oper} {o : Oper} {a : Act} {Q : Exit → Act → World → Prop} {w0 : World} {v : Value} {L : List Int} (B : Nat) (w00 : World) (y : Int) (hown : OwnI w0 B v L) (hgd : o.guard = none) (s x : Operand)
    (ho : o.op = .call { callee := .builtin .append, args := #[s, x], argTypes := #[36, 36] }) (hs : a.eval s = v)
    (hx : a.eval x = .slice (some ⟨w0.heap.size, 0, none⟩) 1 1) (hlen : L.length < 8796093022208) (hbel : Below B w00 w0) (hB : B ≤ w0.heap.size)
    (h : ∀ v' w', OwnI w' B v' (L ++ [y]) → Below B w00 w' → wpList Try.prog ops Q rest (a.put o.dst v') w') : wpList Try.prog ops Q (o :: rest) a (w0.alloc (.cells #[.int .i64 y] 3)) :=
  wpList_pushL B w00 y hown hgd s x ho hs hx (Nat.lt_trans hlen (by decide)) hbel hB h
theorem OwnI.rd {w : World} {B n c : Nat} {a : Option Addr} {L : List Int} (h : OwnI w B (.slice a n c) L) : Rd .i64 w a L := Rd.own h
theorem OwnI.shape {w : World} {B : Nat} {v : Value} {L : List Int} (h : OwnI w B v L) : ∃ a c, v = .slice a L.length c ∧ L.length ≤ c ∧ c ≤ maxLen := by
  rcases h.2 with ⟨rfl, h0⟩ | ⟨g, cap, cur, rfl, _, _, h1, h2, _⟩
  · exact ⟨none, 0, by rw [h0], by omega, by unfold maxLen; omega⟩
  · exact ⟨_, cap, rfl, h1, h2⟩
theorem OwnI.below {w w' : World} {B : Nat} {v : Value} {L : List Int} (h : OwnI w B v L) (hb : Below w.heap.size w w') : OwnI w' B v L := by
  refine ⟨h.1, ?_⟩
  rcases h.2 with h' | ⟨g, cap, cur, h1, h2, h3, h4⟩
  · exact .inl h'
  · have hlt : g < w.heap.size := by
      rcases Nat.lt_or_ge g w.heap.size with hl | hl
      · exact hl
      · rw [Array.getElem?_eq_none hl] at h3; cases h3
    exact .inr ⟨g, cap, cur, h1, h2, (hb.block g hlt).trans h3, h4⟩
theorem OwnI.mono {w : World} {B B' : Nat} {v : Value} {L : List Int} (h : OwnI w B v L) (hB : B' ≤ B) : OwnI w B' v L := by
  refine ⟨h.1, ?_⟩
  rcases h.2 with h' | ⟨g, cap, cur, h1, h2, h3⟩
  · exact .inl h'
  · exact .inr ⟨g, cap, cur, h1, by omega, h3⟩
theorem OwnI.len {w : World} {B g N c : Nat} {L : List Int} (h : OwnI w B (.slice (some ⟨g, 0, none⟩) N c) L) : L.length = N := by
  rcases h.2 with ⟨h', _⟩ | ⟨g', cap, cur, h', _⟩
  · simp at h'
  · simp only [Value.slice.injEq] at h'
    exact h'.2.1.symm
theorem OwnI.block {w : World} {B g N c : Nat} {L : List Int} (h : OwnI w B (.slice (some ⟨g, 0, none⟩) N c) L) : B ≤ g ∧ g < w.heap.size := h.lt g rfl
end Go.Proofs.Ytcnkcbipkchoiag
namespace Go.Proofs.Ytcnkcbipkchoiag
open Go.ChangeShapes Go.WideShapes Go.ChangeAt Go.RowKit
def PieceM.cells (p : PieceM) : List Value := [.int .i64 p.num, .int .i64 p.frm, .bool p.last, .string p.data]
def PieceM.val (p : PieceM) : Value := .agg #[.int .i64 p.num, .int .i64 p.frm, .bool p.last, .string p.data]
def GapM.cells (g : GapM) : List Value := [.int .i64 g.num, .int .i64 g.frm, .int .i64 g.til]
def GapM.zero : GapM := ⟨0, 0, 0⟩
/-- Texts that can be read. -/
def Txs (w : World) (a : Option Addr) (l : List ByteArray) : Prop := l ≠ [] → ∃ b o, a = some ⟨b, o, none⟩ ∧ ∀ i, i < l.length → w.cell? ⟨b, o + i, none⟩ = some (.string (l.getD i ByteArray.empty))
theorem Txs.at {w : World} {a : Option Addr} {l : List ByteArray} (h : Txs w a l) {i : Nat} (hi : i < l.length) : ∃ b o, a = some ⟨b, o, none⟩ ∧ ∀ i, i < l.length → w.cell? ⟨b, o + i, none⟩ = some (.string (l.getD i ByteArray.empty)) := h (by rintro rfl; simp at hi)
/-- Gaps that can be read. -/
def Gps (w : World) (a : Option Addr) (l : List GapM) : Prop := l ≠ [] → ∃ b o, a = some ⟨b, o, none⟩ ∧ ∀ i, i < l.length → w.cell? ⟨b, o + i * 3, none⟩ = some (.int .i64 (l.getD i .zero).num) ∧ w.cell? ⟨b, o + i * 3 + 1, none⟩ = some (.int .i64 (l.getD i .zero).frm) ∧ w.cell? ⟨b, o + i * 3 + 2, none⟩ = some (.int .i64 (l.getD i .zero).til)
def NotIn (F : List Nat) (a : Option Addr) : Prop := ∀ x, a = some x → x.block ∉ F
def Grown (n : Nat) (F F' : List Nat) : Prop := ∀ x ∈ F', x ∈ F ∨ n ≤ x
theorem keptCellQ {S : List Nat} {w w' : World} (hk : Kept S w w') {a : Addr} {v : Value} (h : w.cell? a = some v) (hn : a.block ∉ S) : w'.cell? a = some v := (World.cell?_of_block (hk.block a.block (World.block_lt_of_cell? w a h) hn)).trans h
theorem Txs.kept {w w' : World} {a : Option Addr} {l : List ByteArray} {S : List Nat} (h : Txs w a l) (hk : Kept S w w') (hn : NotIn S a) : Txs w' a l := by
  intro hne
  obtain ⟨b, o, rfl, hC⟩ := h hne
  exact ⟨b, o, rfl, fun i hi => keptCellQ hk (hC i hi) (hn ⟨b, o, none⟩ rfl)⟩
theorem Gps.kept {w w' : World} {a : Option Addr} {l : List GapM} {S : List Nat} (h : Gps w a l) (hk : Kept S w w') (hn : NotIn S a) : Gps w' a l := by
  intro hne
  obtain ⟨b, o, rfl, hC⟩ := h hne
  exact ⟨b, o, rfl, fun i hi => ⟨keptCellQ hk (hC i hi).1 (hn ⟨b, o, none⟩ rfl), keptCellQ hk (hC i hi).2.1 (hn ⟨b, o, none⟩ rfl), keptCellQ hk (hC i hi).2.2 (hn ⟨b, o, none⟩ rfl)⟩⟩
end Go.Proofs.Ytcnkcbipkchoiag
namespace Go.Proofs.Ytcnkcbipkchoiag
open Go.ChangeShapes Go.WideShapes Go.ChangeAt Go.RowKit
theorem Grown.out {F F' : List Nat} {n x : Nat} (h : Grown n F F') (hx : x ∉ F) (hl : x < n) : x ∉ F' := fun e => by
  rcases h x e with g | g
  · exact hx g
  · omega
theorem Grown.low {B : Nat} {F F' : List Nat} {n : Nat} (h : Grown n F F') (hb : ∀ x ∈ F, B ≤ x) (hl : B ≤ n) : ∀ x ∈ F', B ≤ x := fun x hx => by
  rcases h x hx with g | g
  · exact hb x g
  · omega
end Go.Proofs.Ytcnkcbipkchoiag
namespace Go.Proofs.Ytcnkcbipkchoiag
open Go.ChangeShapes Go.WideShapes Go.ChangeAt Go.RowKit
theorem keptRow {S : List Nat} {w w' : World} {B n k : Nat} {T : TypeId} {v : Value} {xs : List Value} (h : w.ownsRow B T k v n xs) (hk : Kept S w w') (hs : ∀ g, v.ownBlock = some g → g ∉ S) : w'.ownsRow B T k v n xs := by
  refine ⟨h.1, ?_⟩
  rcases h.2 with h' | ⟨g, cap, cur, h1, h2, h3, h4⟩
  · exact .inl h'
  · have hlt : g < w.heap.size := (Array.getElem?_eq_some_iff.1 h3).1
    exact .inr ⟨g, cap, cur, h1, h2, (hk.block g hlt (hs g (by rw [h1]; rfl))).trans h3, h4⟩
theorem Kept.grownR {w w' : World} {row : Option Nat} (h : w.grownBy w' row) : Kept row.toList w w' := ⟨h.os, h.tape, h.output, h.size, fun k hk hn => h.block k hk (fun e => hn (by rw [← e]; simp))⟩
theorem wpList_pushR {W : World} {ops : Array Oper} {rest : List Oper} {o : Oper} {a : Act} {Q : Exit → Act → World → Prop} {v z : Value} {xs news : List Value} {n size bytes : Nat} {t e : TypeId} {i0 : TypeInfo} (B g : Nat) (ht : Try.prog.underlying t = some (.slice e)) (hi : Try.prog.info? e = some i0) (hz : i0.zero = some z) (hsz : i0.size = size) (hby : i0.bytes = bytes) (hzs : z.cells.size = size) (h0 : 0 < size)
    (hown : W.ownsRow B e size v n xs) (hgd : o.guard = none) (s x : Operand) (ho : o.op = .call { callee := .builtin .append, args := #[s, x], argTypes := #[t, t] }) (hs : a.eval s = v) (hx : a.eval x = .slice (some ⟨g, 0, none⟩) 1 1) (hl : news.length = 1 * size) (hc : ∀ (k : Nat) u, news[k]? = some u → W.cell? ⟨g, k, none⟩ = some u) (h1 : ∀ u ∈ news, u.oneCell' = true) (h63 : n + 1 ≤ maxLen) (hlen : (n + 1) * bytes ≤ 140737488355328) (hB : B ≤ W.heap.size)
    (h : ∀ v' w', w'.ownsRow B e size v' (n + 1) (xs ++ news) → W.grownBy w' v.ownBlock → (v'.ownBlock = v.ownBlock ∨ v'.ownBlock = some W.heap.size) → wpList Try.prog ops Q rest (a.put o.dst v') w') : wpList Try.prog ops Q (o :: rest) a W :=
  wpList_append_own_at W hgd s x t ho B e i0 z size bytes ht hi hz hsz hby hzs h0 v n xs hs hown ⟨g, 0, none⟩ 1 1 news hx hl (fun j u hj => by rw [Addr.add_lit, Nat.zero_add]; exact hc j u hj) h1 h63 hlen hB (fun v' w' h2 h3 _ h4 => h v' w' h2 h3 h4)
theorem row_shape {w : World} {B n k : Nat} {T : TypeId} {v : Value} {xs : List Value} (h : w.ownsRow B T k v n xs) : ∃ a c, v = .slice a n c ∧ n ≤ c ∧ c ≤ maxLen ∧ (∀ x, a = some x → ∃ g, x = ⟨g, 0, none⟩ ∧ v.ownBlock = some g) := by
  rcases h.2 with ⟨rfl, rfl⟩ | ⟨g, cap, cur, rfl, _, _, h1, h2, _⟩
  · exact ⟨none, 0, rfl, Nat.le_refl _, by unfold maxLen; omega, fun x e => (by cases e)⟩
  · exact ⟨_, cap, rfl, h1, h2, fun x e => ⟨g, (Option.some.inj e).symm, rfl⟩⟩
end Go.Proofs.Ytcnkcbipkchoiag
namespace Go.Proofs.Ytcnkcbipkchoiag
open Go.ChangeShapes Go.WideShapes Go.ChangeAt Go.RowKit
/-- A block's row. -/
def At (w : World) (b : Nat) (T : TypeId) (cur : List Value) : Prop := w.heap[b]? = some (.cells cur.toArray T (0, 0))
theorem At.lt {w : World} {b : Nat} {T : TypeId} {cur : List Value} (h : At w b T cur) : b < w.heap.size := (Array.getElem?_eq_some_iff.1 h).1
theorem At.set {w : World} {b : Nat} {T : TypeId} {cur new : List Value} (h : At w b T cur) : At (w.setRow b new.toArray) b T new := setRow_heap w b _ _ T _ h
theorem At.other {w : World} {b g : Nat} {T : TypeId} {cur : List Value} (h : At w b T cur) (hne : b ≠ g) (x : Array Value) : At (w.setRow g x) b T cur := (setRow_other w g b x hne).trans h
theorem At.kept {w w' : World} {b : Nat} {T : TypeId} {cur : List Value} {S : List Nat} (h : At w b T cur) (hk : Kept S w w') (hn : b ∉ S) : At w' b T cur := (hk.block b h.lt hn).trans h
theorem At.cell {w : World} {b : Nat} {T : TypeId} {cur : List Value} (h : At w b T cur) (j : Nat) : w.cell? ⟨b, j, none⟩ = cur[j]? := by
  rw [cell_of_row _ _ _ _ _ _ h]
  simp
theorem At.free {w : World} {b : Nat} {T : TypeId} {cur : List Value} (h : At w b T cur) (j : Nat) : w.frozen? ⟨b, j, none⟩ = false := frozen_of_row w b j _ T h
theorem At.row {w : World} {g n c k : Nat} {T : TypeId} {cur xs : List Value} (h : At w g T cur) (hl : xs.length = n * k) (hn : n ≤ c) (hc : c ≤ maxLen) (hs : cur.length = c * k) (ht : cur.take (n * k) = xs) : w.ownsRow 0 T k (.slice (some ⟨g, 0, none⟩) n c) n xs :=
  ⟨hl, .inr ⟨g, c, cur.toArray, rfl, Nat.zero_le _, h, hn, hc, by simpa using hs, by simpa using ht⟩⟩
theorem row_at {w : World} {B g n c k : Nat} {T : TypeId} {xs : List Value} {m : Nat} (h : w.ownsRow B T k (.slice (some ⟨g, 0, none⟩) m c) n xs) : ∃ cur, At w g T cur ∧ m = n ∧ n ≤ c ∧ c ≤ maxLen ∧ cur.length = c * k ∧ cur.take (n * k) = xs ∧ xs.length = n * k := by
  rcases h.2 with ⟨h', _⟩ | ⟨g', cap, cur, h', _, hg, h1, h2, h3, h4⟩
  · simp at h'
  · simp only [Value.slice.injEq, Option.some.injEq, Addr.mk.injEq] at h'
    obtain ⟨⟨rfl, -, -⟩, rfl, rfl⟩ := h'
    refine ⟨cur.toList, ?_, rfl, h1, h2, by simpa using h3, h4, h.1⟩
    unfold At
    rw [Array.toArray_toList]
    exact hg
theorem row_len {w : World} {B n c k : Nat} {T : TypeId} {xs : List Value} {m : Nat} {a : Option Addr} (h : w.ownsRow B T k (.slice a m c) n xs) : m = n := by
  rcases h.2 with ⟨h', h0⟩ | ⟨g', cap, cur, h', _, hg, h1, h2, h3, h4⟩
  · simp only [Value.slice.injEq] at h'
    omega
  · simp only [Value.slice.injEq] at h'
    exact h'.2.1
end Go.Proofs.Ytcnkcbipkchoiag
namespace Go.Proofs.Ytcnkcbipkchoiag
open Go.ChangeShapes Go.WideShapes Go.ChangeAt Go.RowKit
theorem At.shape {w : World} {b : Nat} {T : TypeId} {cur : List Value} (h : At w b T cur) : w.shape? b = some (T, cur.length) := by
  unfold At at h
  simp [World.shape?, h]
theorem row_some {w : World} {a : Option Addr} {n c k : Nat} {T : TypeId} {xs : List Value} (h : w.ownsRow 0 T k (.slice a n c) n xs) (h0 : 0 < n) : ∃ g, a = some ⟨g, 0, none⟩ := by
  cases a with
  | none =>
    rcases h.2 with ⟨_, h'0⟩ | ⟨g', cap, cur, h', _⟩
    · omega
    · simp at h'
  | some ad =>
    obtain ⟨x, cc, e, hn, hc, hx⟩ := row_shape h
    simp only [Value.slice.injEq] at e
    obtain ⟨rfl, -, rfl⟩ := e
    obtain ⟨g, rfl, -⟩ := hx ad rfl
    exact ⟨g, rfl⟩
end Go.Proofs.Ytcnkcbipkchoiag
namespace Go.Proofs.Ytcnkcbipkchoiag
open Go.ChangeShapes Go.WideShapes Go.ChangeAt Go.RowKit
theorem at_alloc (w : World) (T : TypeId) (cur : List Value) : At (w.alloc (.cells cur.toArray T)) w.heap.size T cur := heap_alloc_new w (.cells cur.toArray T)
end Go.Proofs.Ytcnkcbipkchoiag
namespace Go.Proofs.Ytcnkcbipkchoiag
abbrev Sps := List (Nat × Nat)
def inS (l : Sps) (i : Nat) : Prop := ∃ q ∈ l, q.1 ≤ i ∧ i < q.2
def Srt (l : Sps) : Prop := (∀ q ∈ l, q.1 < q.2) ∧ l.Pairwise fun p q => p.2 < q.1
def EndLe (l : Sps) (e : Nat) : Prop := ∀ q ∈ l, q.2 ≤ e
theorem Srt.nil : Srt [] := ⟨fun _ h => absurd h List.not_mem_nil, .nil⟩
theorem inS_nil (i : Nat) : ¬ inS [] i := fun ⟨_, h, _⟩ => absurd h List.not_mem_nil
theorem inS_cons (q : Nat × Nat) (l : Sps) (i : Nat) : inS (q :: l) i ↔ (q.1 ≤ i ∧ i < q.2) ∨ inS l i := by simp [inS]
theorem inS_app (l r : Sps) (i : Nat) : inS (l ++ r) i ↔ inS l i ∨ inS r i := by
  simp only [inS, List.mem_append]
  constructor
  · rintro ⟨q, h | h, h'⟩
    · exact .inl ⟨q, h, h'⟩
    · exact .inr ⟨q, h, h'⟩
  · rintro (⟨q, h, h'⟩ | ⟨q, h, h'⟩)
    · exact ⟨q, .inl h, h'⟩
    · exact ⟨q, .inr h, h'⟩
theorem Srt.tail {q : Nat × Nat} {l : Sps} (h : Srt (q :: l)) : Srt l := ⟨fun p hp => h.1 p (List.mem_cons_of_mem _ hp), (List.pairwise_cons.1 h.2).2⟩
theorem Srt.head {q : Nat × Nat} {l : Sps} (h : Srt (q :: l)) : q.1 < q.2 ∧ ∀ p ∈ l, q.2 < p.1 := ⟨h.1 q List.mem_cons_self, (List.pairwise_cons.1 h.2).1⟩
theorem Srt.len {l : Sps} (h : Srt l) : ∀ {lo e : Nat}, (∀ q ∈ l, lo ≤ q.1) → EndLe l e → lo ≤ e → l.length ≤ e - lo := by
  induction l with
  | nil => intros; simp
  | cons q l ih =>
    intro lo e h1 h2 h3
    have hq := h.head
    have hlo := h1 q List.mem_cons_self
    have hhi := h2 q List.mem_cons_self
    have := ih h.tail (lo := q.2) (e := e) (fun p hp => by have := hq.2 p hp; omega) (fun p hp => h2 p (List.mem_cons_of_mem _ hp)) hhi
    rw [List.length_cons]
    omega
theorem Srt.getLt {l : Sps} (h : Srt l) {i j : Nat} (hij : i < j) (hj : j < l.length) : (l.getD i (0, 0)).2 < (l.getD j (0, 0)).1 := by
  have := List.pairwise_iff_getElem.1 h.2 i j (by omega) hj hij
  rw [List.getD_eq_getElem?_getD, List.getD_eq_getElem?_getD, List.getElem?_eq_getElem (by omega), List.getElem?_eq_getElem hj]
  exact this
theorem Srt.getPos {l : Sps} (h : Srt l) {j : Nat} (hj : j < l.length) : (l.getD j (0, 0)).1 < (l.getD j (0, 0)).2 := by
  rw [List.getD_eq_getElem?_getD, List.getElem?_eq_getElem hj]
  exact h.1 _ (List.getElem_mem hj)
theorem mem_takeS {l : Sps} {b : Nat} {q : Nat × Nat} (h : q ∈ l.take b) : ∃ k, k < b ∧ k < l.length ∧ q = l.getD k (0, 0) := by
  obtain ⟨k, hk, e⟩ := List.mem_iff_getElem.1 h
  rw [List.length_take] at hk
  rw [List.getElem_take] at e
  refine ⟨k, by omega, by omega, ?_⟩
  rw [List.getD_eq_getElem?_getD, List.getElem?_eq_getElem (by omega)]
  exact e.symm
theorem mem_dropS {l : Sps} {b : Nat} {q : Nat × Nat} (h : q ∈ l.drop b) : ∃ k, b ≤ k ∧ k < l.length ∧ q = l.getD k (0, 0) := by
  obtain ⟨k, hk, e⟩ := List.mem_iff_getElem.1 h
  rw [List.length_drop] at hk
  rw [List.getElem_drop] at e
  refine ⟨b + k, by omega, by omega, ?_⟩
  rw [List.getD_eq_getElem?_getD, List.getElem?_eq_getElem (by omega)]
  exact e.symm
/-- What holds while spans are joined: those ahead of b lie ahead, those from b up to e are joined to (x, y). -/
structure Joins (l : Sps) (a z b e x y : Nat) : Prop where
  be : b ≤ e
  el : e ≤ l.length
  ahead : ∀ k, k < b → (l.getD k (0, 0)).2 < a
  from_ : ∀ k, b ≤ k → k < l.length → a ≤ (l.getD k (0, 0)).2
  lo : x ≤ a
  hi : z ≤ y
  aheadX : ∀ k, k < b → (l.getD k (0, 0)).2 < x
  mem : ∀ i, (x ≤ i ∧ i < y) ↔ ((a ≤ i ∧ i < z) ∨ inS ((l.drop b).take (e - b)) i)
theorem Joins.step {l : Sps} {a z b e x y : Nat} (h : Joins l a z b e x y) (hs : Srt l) (_haz : a < z) (he : e < l.length) (hy : (l.getD e (0, 0)).1 ≤ y) : Joins l a z b (e + 1) (min x (l.getD e (0, 0)).1) (max y (l.getD e (0, 0)).2) := by
  have hbe := h.be
  have hp := hs.getPos he
  have hf := h.from_ e h.be he
  have hlo := h.lo
  have hhi := h.hi
  refine ⟨by omega, by omega, h.ahead, h.from_, by omega, by omega, fun k hk => ?_, fun i => ?_⟩
  · have h1 := h.aheadX k hk
    have h2 := hs.getLt (show k < e by omega) he
    omega
  · have e1 : (l.drop b).take (e + 1 - b) = (l.drop b).take (e - b) ++ [l.getD e (0, 0)] := by
      rw [show e + 1 - b = (e - b) + 1 by omega, List.take_add_one, List.getElem?_drop, show b + (e - b) = e by omega, List.getElem?_eq_getElem he, List.getD_eq_getElem?_getD, List.getElem?_eq_getElem he]
      rfl
    have e2 : inS [l.getD e (0, 0)] i ↔ (l.getD e (0, 0)).1 ≤ i ∧ i < (l.getD e (0, 0)).2 := by
      rw [inS_cons]
      constructor
      · rintro (h | h)
        · exact h
        · exact absurd h (inS_nil i)
      · exact .inl
    rw [e1, inS_app, ← or_assoc, ← h.mem i, e2]
    omega
theorem Joins.done {l : Sps} {a z b e x y : Nat} (h : Joins l a z b e x y) (hs : Srt l) (haz : a < z) (hy : e < l.length → y < (l.getD e (0, 0)).1) : Srt (l.take b ++ (x, y) :: l.drop e) ∧ (∀ i, inS (l.take b ++ (x, y) :: l.drop e) i ↔ inS l i ∨ (a ≤ i ∧ i < z)) ∧ (l.take b ++ (x, y) :: l.drop e).length = b + 1 + (l.length - e) := by
  have hbe := h.be
  have hel := h.el
  have hlo := h.lo
  have hhi := h.hi
  have hC : ∀ q ∈ l.drop e, y < q.1 := fun q hq => by
    obtain ⟨k, h1, h2, rfl⟩ := mem_dropS hq
    rcases Nat.eq_or_lt_of_le h1 with e' | e'
    · subst e'; exact hy h2
    · have h3 := hs.getLt e' h2
      have h4 := hs.getPos (show e < l.length by omega)
      have h5 := hy (by omega)
      omega
  have hA : ∀ q ∈ l.take b, q.2 < x := fun q hq => by
    obtain ⟨k, h1, h2, rfl⟩ := mem_takeS hq
    exact h.aheadX k h1
  refine ⟨⟨fun q hq => ?_, ?_⟩, fun i => ?_, ?_⟩
  · rw [List.mem_append, List.mem_cons] at hq
    rcases hq with hq | rfl | hq
    · exact hs.1 q (List.mem_of_mem_take hq)
    · show x < y
      omega
    · exact hs.1 q (List.mem_of_mem_drop hq)
  · rw [List.pairwise_append, List.pairwise_cons]
    refine ⟨hs.2.sublist (List.take_sublist _ _), ⟨hC, hs.2.sublist (List.drop_sublist _ _)⟩, fun p hp q hq => ?_⟩
    rw [List.mem_cons] at hq
    have h1 := hA p hp
    rcases hq with rfl | hq
    · exact h1
    · have := hC q hq
      omega
  · have e1 : l = l.take b ++ ((l.drop b).take (e - b) ++ l.drop e) := by
      have h1 : l.drop b = (l.drop b).take (e - b) ++ l.drop e := by
        have := (List.take_append_drop (e - b) (l.drop b)).symm
        rwa [List.drop_drop, show b + (e - b) = e by omega] at this
      rw [← h1, List.take_append_drop]
    have e2 : inS l i ↔ inS (l.take b) i ∨ (inS ((l.drop b).take (e - b)) i ∨ inS (l.drop e) i) := by
      conv => lhs; rw [e1]
      rw [inS_app, inS_app]
    rw [e2, inS_app, inS_cons]
    have hm := h.mem i
    show _ ∨ ((x ≤ i ∧ i < y) ∨ _) ↔ _
    rw [hm]
    constructor
    · rintro (h | (h | h) | h)
      · exact .inl (.inl h)
      · exact .inr h
      · exact .inl (.inr (.inl h))
      · exact .inl (.inr (.inr h))
    · rintro ((h | h | h) | h)
      · exact .inl h
      · exact .inr (.inl (.inr h))
      · exact .inr (.inr h)
      · exact .inr (.inl (.inl h))
  · simp only [List.length_append, List.length_take, List.length_cons, List.length_drop]
    omega
end Go.Proofs.Ytcnkcbipkchoiag
