import Derived.Test.YtbmdjfolfmgmmagRows
import Derived.WalkKit
import Derived.ProofKit
import Derived.OpenShut
import Derived.ShutString
import Derived.ChangeOld
import Derived.Below
import Derived.WalkLawsBesides
import Derived.WalkSpells
import Derived.BigQuiet
import Derived.Deep.QuietTactic
import Derived.Laws.CopyOwn
import Derived.Laws.AppendOwnNone
import Derived.Laws.BitsAllLaws
import Derived.Laws.BytesArg
import Derived.Laws.BytesString
namespace Go.Proofs.Ytbmdjfolfmgmmag
open Go.ChangeShapes Go.WideShapes Go.ChangeAt Go.RowKit
/-- What a reader is told of a slice of integers: where it has elements, it leads to a row of cells that hold them. -/
def Rd (k : IntKind) (w : World) (a : Option Addr) (zs : List Int) : Prop :=
  zs ≠ [] → ∃ b off, a = some ⟨b, off, none⟩ ∧ ∀ j, j < zs.length → w.cell? ⟨b, off + j, none⟩ = some (.int k (zs.getD j 0))
theorem Rd.at {k : IntKind} {w : World} {a : Option Addr} {zs : List Int} (h : Rd k w a zs) {i : Nat} (hi : i < zs.length) :
    ∃ b off, a = some ⟨b, off, none⟩ ∧ ∀ j, j < zs.length → w.cell? ⟨b, off + j, none⟩ = some (.int k (zs.getD j 0)) :=
  h (by intro e; subst e; simp at hi)
theorem Rd.below {k : IntKind} {w w' : World} {a : Option Addr} {zs : List Int} (h : Rd k w a zs) (hb : Below w.heap.size w w') : Rd k w' a zs := by
  intro hne
  obtain ⟨b, off, rfl, hc⟩ := h hne
  exact ⟨b, off, rfl, fun j hj => (hb.cell (World.block_lt_of_cell? w _ (hc j hj))).trans (hc j hj)⟩
theorem Rd.nil (k : IntKind) (w : World) (a : Option Addr) : Rd k w a [] := fun h => absurd rfl h
/-- A row that a call owns can be read. -/
theorem Rd.own {k : IntKind} {w : World} {base : Nat} {e : TypeId} {a : Option Addr} {n c : Nat} {zs : List Int} (h : w.ownsRow base e 1 (.slice a n c) zs.length (zs.map (Value.int k))) : Rd k w a zs := by
  intro hne
  rcases h.2 with ⟨_, h0⟩ | ⟨g, cap, cur, h', _⟩
  · exact absurd (List.eq_nil_of_length_eq_zero h0) hne
  · simp only [Value.slice.injEq] at h'
    obtain ⟨rfl, rfl, rfl⟩ := h'
    refine ⟨g, 0, rfl, fun j hj => ?_⟩
    rw [Nat.zero_add, h.cellAt j (by omega)]
    simp [List.getD, hj]
theorem rd_block {k : IntKind} {w : World} {b : Nat} {e : TypeId} {m : Nat × Nat} {zs : List Int} (h : w.heap[b]? = some (.cells (zs.map (Value.int k)).toArray e m)) : Rd k w (some ⟨b, 0, none⟩) zs := by
  intro _
  refine ⟨b, 0, rfl, fun j hj => ?_⟩
  rw [Nat.zero_add, cell_of_row w b j _ e m h]
  simp [List.getD, hj]
/-- One call behind another: nothing that was there at the first has turned. -/
theorem bthen {w w1 w2 : World} (h1 : Below w.heap.size w w1) (h2 : Below w1.heap.size w1 w2) : Below w.heap.size w w2 := h1.trans (h2.mono h1.size)
theorem Rd.take {k : IntKind} {w : World} {b o : Nat} {zs : List Int} (h : ∀ j, j < zs.length → w.cell? ⟨b, o + j, none⟩ = some (.int k (zs.getD j 0))) (n : Nat) : Rd k w (some ⟨b, o, none⟩) (zs.take n) := by
  intro _
  refine ⟨b, o, rfl, fun j hj => ?_⟩
  have hj' : j < zs.length ∧ j < n := by rw [List.length_take] at hj; omega
  rw [h j hj'.1]
  simp [List.getD, hj'.2]
theorem Rd.drop {k : IntKind} {w : World} {b o : Nat} {zs : List Int} (h : ∀ j, j < zs.length → w.cell? ⟨b, o + j, none⟩ = some (.int k (zs.getD j 0))) (n : Nat) : Rd k w (some ⟨b, o + n, none⟩) (zs.drop n) := by
  intro _
  refine ⟨b, o + n, rfl, fun j hj => ?_⟩
  have hj' : n + j < zs.length := by rw [List.length_drop] at hj; omega
  have := h (n + j) hj'
  rw [← Nat.add_assoc] at this
  rw [this]
  simp [List.getD]
theorem hid {p : Prop} (h : p) : Hid p := h
end Go.Proofs.Ytbmdjfolfmgmmag
namespace Go.Proofs.Ytbmdjfolfmgmmag
open Go.RowKit
/-- Every number a byte. -/
def Bytes (zs : List Int) : Prop := ∀ n ∈ zs, 0 ≤ n ∧ n ≤ 255
/-- Only 0 and 1. -/
def Bits (zs : List Int) : Prop := ∀ k, 0 ≤ zs.getD k 0 ∧ zs.getD k 0 ≤ 1
/-- Only 0 and 1 up to place k. -/
def Okay (zs : List Int) (k : Nat) : Prop := ∀ j, j < k → zs.getD j 0 ≤ 1
/-- What is wrong with bits: 0, 1 (a byte that is none), 2 (too many). -/
def errOf (zs : List Int) : Int := if zs.all (fun x => decide (x ≤ 1)) then (if 4096 < zs.length then 2 else 0) else 1
theorem Bytes.at {zs : List Int} (h : Bytes zs) (k : Nat) : 0 ≤ zs.getD k 0 ∧ zs.getD k 0 ≤ 255 := by
  by_cases hk : k < zs.length
  · have : zs.getD k 0 = zs[k] := by simp [List.getD, hk]
    rw [this]; exact h _ (List.getElem_mem hk)
  · have : zs.getD k 0 = 0 := by simp [List.getD, Nat.le_of_not_lt hk]
    rw [this]; omega
theorem okay_all {zs : List Int} (h : Okay zs zs.length) : zs.all (fun x => decide (x ≤ 1)) = true := by
  rw [List.all_eq_true]
  intro x hx
  obtain ⟨k, hk, rfl⟩ := List.getElem_of_mem hx
  have := h k hk
  simpa [List.getD, hk] using this
theorem all_okay {zs : List Int} (h : zs.all (fun x => decide (x ≤ 1)) = true) (k : Nat) : zs.getD k 0 ≤ 1 := by
  rw [List.all_eq_true] at h
  by_cases hk : k < zs.length
  · have := h _ (List.getElem_mem hk)
    simpa [List.getD, hk] using this
  · simp [List.getD, Nat.le_of_not_lt hk]
theorem err_bad {zs : List Int} {k : Nat} (h : ¬ zs.getD k 0 ≤ 1) : errOf zs = 1 := by
  unfold errOf
  rw [if_neg]
  intro e
  exact h (all_okay e k)
theorem err_long {zs : List Int} (h : Okay zs zs.length) (hl : 4096 < zs.length) : errOf zs = 2 := by
  unfold errOf
  rw [if_pos (okay_all h), if_pos hl]
theorem err_none {zs : List Int} (h : Okay zs zs.length) (hl : ¬ 4096 < zs.length) : errOf zs = 0 := by
  unfold errOf
  rw [if_pos (okay_all h), if_neg hl]
theorem Okay.succ {zs : List Int} {k : Nat} (h : Okay zs k) (e : zs.getD k 0 ≤ 1) : Okay zs (k + 1) := fun j hj => by
  by_cases hjk : j = k
  · subst hjk; exact e
  · exact h j (by omega)
/-- Where nothing is wrong. -/
theorem err_zero {zs : List Int} (h : errOf zs = 0) : (∀ k, zs.getD k 0 ≤ 1) ∧ zs.length ≤ 4096 := by
  unfold errOf at h
  split at h
  · rename_i ha
    refine ⟨all_okay ha, ?_⟩
    split at h
    · simp at h
    · omega
  · simp at h
theorem ret_int {k : IntKind} {a b : Int} (h : a = b) : Ending.returned (.int k a) = .returned (.int k b) := by rw [h]
end Go.Proofs.Ytbmdjfolfmgmmag
namespace Go.Proofs.Ytbmdjfolfmgmmag
open Go.ChangeShapes Go.WideShapes Go.ChangeAt Go.RowKit
/-- The byte at a place of a text. -/
def byteAt (s : ByteArray) (j : Nat) : Int := if h : j < s.size then (s[j].toNat : Int) else 0
/-- The bit at a place of a text: the first byte's highest place first. -/
def bitAt (s : ByteArray) (i : Nat) : Int := byteAt s (i / 8) / 2 ^ (7 - i % 8) % 2
theorem byteAt_eq (s : ByteArray) (j : Nat) (h : j < s.size) : byteAt s j = (s[j].toNat : Int) := by simp [byteAt, h]
theorem byteAt_bd (s : ByteArray) (j : Nat) : 0 ≤ byteAt s j ∧ byteAt s j ≤ 255 := by
  unfold byteAt
  split
  · have := s[j].toNat_lt; omega
  · omega
theorem half_step (m q : Int) (K r : Nat) (hr : r ≤ K) (h : q = m / 2 ^ (K - r)) : q / 2 = m / 2 ^ (K + 1 - r) := by
  rw [show K + 1 - r = (K - r) + 1 from by omega, Int.pow_succ, ← Int.ediv_ediv_of_nonneg (Int.pow_nonneg (by decide)), h]
theorem wrap64_byte (u : UInt8) : wrap64 (u.toNat : Int) = (u.toNat : Int) := by
  have := u.toNat_lt
  exact Go.IntWalk.wrap64_in _ (by omega)
theorem val_int {k : IntKind} {a b : Int} (h : a = b) : Value.int k a = Value.int k b := by rw [h]
set_option maxHeartbeats 400000 in
theorem bitat_any (s : ByteArray) (i : Nat) (w : World) (hs : i / 8 < s.size) (hm : s.size ≤ 140737488355328) :
    Calls Try.prog 54 #[.string s, .int .i64 i] w fun e w' => e = .returned (.int .u8 (bitAt s i)) ∧ w = w' := by
  have hi : (i : Int) / 8 < s.size := by omega
  have HB : Hid (byteAt s (i / 8) = (s[i / 8].toNat : Int)) := byteAt_eq s _ hs
  go_enter Try.func54, Try.ntmps54
  go_wp2
  go_loop [5, 6] (fun n k => ∃ K : Nat, ∃ q : Int, i % 8 ≤ K ∧ K ≤ 7 ∧ 0 ≤ q ∧ q ≤ 255 ∧ k = .int .i64 K ∧ n = .int .i64 q ∧ Hid (q = byteAt s (i / 8) / 2 ^ (K - i % 8))) (fun _ k => 7 - (intOf k).toNat)
  case atStart => exact ⟨i % 8, byteAt s (i / 8), by omega, by omega, (byteAt_bd _ _).1, (byteAt_bd _ _).2, by go_num, val_int (by rw [HB.out, wrap64_byte]), by unfold Hid; simp⟩
  case round =>
    obtain ⟨K, q, h1, h2, h3, h4, rfl, rfl, HQ⟩ := hrel
    by_cases hlt : K < 7
    · go_wp2
      go_round
      case rel => exact ⟨K + 1, q / 2, by omega, by omega, by omega, by omega, by go_num, rfl, half_step _ _ _ _ h1 HQ.out⟩
      case measure => simp [intOf]; omega
    · go_wp2
      go_ret
      have : K = 7 := by omega
      subst this
      exact ⟨ret_int (by unfold bitAt; rw [← HQ.out]), rfl⟩
end Go.Proofs.Ytbmdjfolfmgmmag
namespace Go.Proofs.Ytbmdjfolfmgmmag
open Go.ChangeShapes Go.WideShapes Go.ChangeAt Go.RowKit
theorem Try.info5 : (Try.prog.info? 5).map (fun i => (i.zero, i.size, i.bytes)) = some (some (.int .u8 0), 1, 1) := by kernel_rfl
/-- A list of bytes in memory of one's own. -/
def Own (w : World) (B : Nat) (v : Value) (L : List Int) : Prop := w.ownsRow B 5 1 v L.length (L.map (Value.int .u8))
theorem Own.nil (w : World) (B : Nat) : Own w B (.slice none 0 0) [] := World.ownsRow_nil _ _ _ _
theorem Own.snoc {w : World} {B : Nat} {v : Value} {L : List Int} {x : Int} (h : w.ownsRow B 5 1 v (L.length + 1) (L.map (Value.int .u8) ++ [.int .u8 x])) : Own w B v (L ++ [x]) := by
  unfold Own
  rw [List.length_append, List.map_append]
  exact h
theorem own_blocks {w : World} {B : Nat} {v : Value} {L : List Int} (h : Own w B v L) : ∀ k, v.ownBlock = some k → B ≤ k := fun k hk => (h.lt k hk).1
/-- 'out = append(out, y)', out a list of bytes of one's own. -/
theorem wpList_push {ops : Array Oper} {rest : List Oper} {o : Oper} {a : Act} {Q : Exit → Act → World → Prop} {w0 : World} {v : Value} {L : List Int} (B : Nat) (w00 : World) (y : Int) (hown : Own w0 B v L) (hgd : o.guard = none) (s x : Operand)
    (ho : o.op = .call { callee := .builtin .append, args := #[s, x], argTypes := #[75, 75] }) (hs : a.eval s = v)
    (hx : a.eval x = .slice (some ⟨w0.heap.size, 0, none⟩) 1 1) (hlen : L.length < 70368744177664) (hbel : Below B w00 w0) (hB : B ≤ w0.heap.size)
    (h : ∀ v' w', Own w' B v' (L ++ [y]) → Below B w00 w' → wpList Try.prog ops Q rest (a.put o.dst v') w') : wpList Try.prog ops Q (o :: rest) a (w0.alloc (.cells #[.int .u8 y] 5)) := by
  obtain ⟨i0, hi, hz0, hz1, hz2⟩ := info_parts Try.info5
  refine wpList_append_own _ hgd s x 75 ho B 5 i0 (.int .u8 0) 1 1 Try.underlying75 hi hz0 hz1 hz2 rfl (by decide) v _ _ hs (World.ownsRow.alloc hown _) ⟨w0.heap.size, 0, none⟩ 1 1 [.int .u8 y] hx rfl (cell_one_new _ _ _) ?_ ?_ ?_ ?_ ?_
  · intro u hu; simp at hu; subst hu; rfl
  · unfold maxLen; omega
  · omega
  · simp; omega
  · intro v' w' h1 h2 _
    exact h v' w' (Own.snoc h1) ((hbel.alloc hB _).grown h2 (by simp; omega) (own_blocks hown))
/-- 'make([]byte, N)'. -/
theorem wpList_makeBytes {w : World} {ops : Array Oper} {rest : List Oper} {o : Oper} {a : Act} {Q : Exit → Act → World → Prop} (B : Nat) (w00 : World) (N : Nat) (hgd : o.guard = none) (l c : Operand)
    (ho : o.op = Op.makeSlice 75 l c) (x y : Int) (hl : a.eval l = .int .i64 x) (hc : a.eval c = .int .i64 y) (hx : x = (N : Int)) (hy : y = (N : Int)) (hN : N ≤ 70368744177664) (hbel : Below B w00 w) (hB : B ≤ w.heap.size)
    (h : ∀ w', Own w' B (.slice (some ⟨w.heap.size, 0, none⟩) N N) (List.replicate N 0) → Below B w00 w' → w.heap.size < w'.heap.size → wpList Try.prog ops Q rest (a.put o.dst (.slice (some ⟨w.heap.size, 0, none⟩) N N)) w') :
    wpList Try.prog ops Q (o :: rest) a w := by
  obtain ⟨i0, hi, hz0, hz1, hz2⟩ := info_parts Try.info5
  refine wpList_make_full w hgd l c 75 ho B 5 i0 (.int .u8 0) 1 Try.underlying75 hi hz0 hz1 .i64 .i64 x y N hl hc hx hy (by rw [hz2]; omega) (by unfold maxLen; omega) hB fun w' h1 h2 => ?_
  have e : (madeCells (Value.cells (.int .u8 0)) (N * 1)).toList = List.replicate N (.int .u8 0) := by
    rw [Nat.mul_one]; exact toList_madeCells_one _ _
  rw [e] at h1
  have hlt := (h1.lt w.heap.size rfl).2
  refine h w' ?_ (hbel.grown h2 hB (by intro k hk; cases hk)) hlt
  unfold Own
  rw [List.length_replicate, List.map_replicate]
  exact h1
theorem Own.cell {w : World} {B g N c : Nat} {L : List Int} (h : Own w B (.slice (some ⟨g, 0, none⟩) N c) L) {i : Nat} (hi : i < L.length) : w.cell? ⟨g, i, none⟩ = some (.int .u8 (L.getD i 0)) := by
  obtain ⟨b, off, e, hc⟩ := (Rd.own (k := .u8) h) (by intro e; subst e; simp at hi)
  simp only [Option.some.injEq, Addr.mk.injEq, and_true] at e
  obtain ⟨rfl, rfl⟩ := e
  have := hc i hi
  rwa [Nat.zero_add] at this
theorem Own.len {w : World} {B g N c : Nat} {L : List Int} (h : Own w B (.slice (some ⟨g, 0, none⟩) N c) L) : L.length = N := by
  rcases h.2 with ⟨h', _⟩ | ⟨g', cap, cur, h', _⟩
  · simp at h'
  · simp only [Value.slice.injEq] at h'
    exact h'.2.1.symm
theorem Own.block {w : World} {B g N c : Nat} {L : List Int} (h : Own w B (.slice (some ⟨g, 0, none⟩) N c) L) : B ≤ g ∧ g < w.heap.size := h.lt g rfl
theorem Own.free {w : World} {B g N c : Nat} {L : List Int} (h : Own w B (.slice (some ⟨g, 0, none⟩) N c) L) (i : Nat) : w.frozen? ⟨g, i, none⟩ = false := by
  have e := h.len
  unfold Own at h
  rw [e] at h
  exact h.frozenAt i
theorem Own.set {w : World} {B g N c : Nat} {L : List Int} (h : Own w B (.slice (some ⟨g, 0, none⟩) N c) L) (i : Nat) (x : Int) : Own (w.setCell ⟨g, i, none⟩ (.int .u8 x)) B (.slice (some ⟨g, 0, none⟩) N c) (L.set i x) := by
  have e := h.len
  unfold Own at h ⊢
  rw [List.length_set, e, List.map_set]
  rw [e] at h
  exact (h.stored i _).1
theorem Own.drew {w : World} {B : Nat} {v : Value} {L : List Int} (h : Own w B v L) : Own w.drew B v L := h
theorem Own.rd {w : World} {B n c : Nat} {a : Option Addr} {L : List Int} (h : Own w B (.slice a n c) L) : Rd .u8 w a L := Rd.own h
theorem Own.shape {w : World} {B : Nat} {v : Value} {L : List Int} (h : Own w B v L) : ∃ a c, v = .slice a L.length c ∧ (L ≠ [] → ∃ g, a = some ⟨g, 0, none⟩) ∧ L.length ≤ c ∧ c ≤ maxLen := by
  rcases h.2 with ⟨h', h0⟩ | ⟨g, cap, cur, h', _, _, h1, h2, _⟩
  · refine ⟨none, 0, by rw [h', h0], fun hne => absurd (List.eq_nil_of_length_eq_zero h0) hne, by omega, by unfold maxLen; omega⟩
  · exact ⟨some ⟨g, 0, none⟩, cap, h', fun _ => ⟨g, rfl⟩, h1, h2⟩
theorem Own.below {w w' : World} {B : Nat} {v : Value} {L : List Int} (h : Own w B v L) (hb : Below w.heap.size w w') : Own w' B v L := by
  refine ⟨h.1, ?_⟩
  rcases h.2 with h' | ⟨g, cap, cur, h1, h2, h3, h4⟩
  · exact .inl h'
  · have hlt : g < w.heap.size := by
      rcases Nat.lt_or_ge g w.heap.size with hl | hl
      · exact hl
      · rw [Array.getElem?_eq_none hl] at h3; cases h3
    exact .inr ⟨g, cap, cur, h1, h2, (hb.block g hlt).trans h3, h4⟩
theorem Own.mono {w : World} {B B' : Nat} {v : Value} {L : List Int} (h : Own w B v L) (hB : B' ≤ B) : Own w B' v L := by
  refine ⟨h.1, ?_⟩
  rcases h.2 with h' | ⟨g, cap, cur, h1, h2, h3⟩
  · exact .inl h'
  · exact .inr ⟨g, cap, cur, h1, by omega, h3⟩
/-- 'string(v)', v a list of bytes that can be read. -/
theorem conv_rd {w : World} {a : Option Addr} {L : List Int} (h : Rd .u8 w a L) (c : Nat) : (convert 75 9 (.slice a L.length c)).run Try.prog w = .ok (.string (strOfNums L)) w := by
  cases L with
  | nil =>
    rw [run_convert_bytes_string w 75 9 5 a ([] : List Int).length c Try.underlying75 Try.underlying5 Try.underlying9]
    cases a with
    | none => simp [Conv.bytesToString, strOfNums]; rfl
    | some x => exact (run_bytesToString w x 0 c [] (by simp [loadCells]; rfl)).trans (by simp [strOfNums]; rfl)
  | cons y L =>
    obtain ⟨b, off, rfl, hc⟩ := h (by simp)
    exact run_convert_bytes_arg w 75 5 Try.underlying75 Try.underlying5 b off _ c _ rfl hc 9 Try.underlying9
/-- What a row holds while it is filled from its head on. -/
theorem set_fill (A : List Int) (k m : Nat) (x : Int) (hA : A.length = k) : (A ++ List.replicate (m + 1) 0).set k x = (A ++ [x]) ++ List.replicate m 0 := by
  subst hA
  rw [List.set_append_right _ _ (Nat.le_refl _), Nat.sub_self, List.replicate_succ, List.set_cons_zero, List.append_assoc]
  rfl
end Go.Proofs.Ytbmdjfolfmgmmag
namespace Go.Proofs.Ytbmdjfolfmgmmag
open Go.ChangeShapes Go.WideShapes Go.ChangeAt Go.RowKit
/-- The first n bits of a text. -/
def unpackTo (s : ByteArray) (n : Nat) : List Int := (List.range n).map (bitAt s)
/-- What is wrong with asking for n bits of a text. -/
def unpackErr (s : ByteArray) (n : Int) : Int := if n < 0 ∨ 8 * (s.size : Int) < n then 1 else if 4096 < n then 2 else 0
def unpackL (s : ByteArray) (n : Int) : List Int := if unpackErr s n = 0 then unpackTo s n.toNat else []
theorem unpackTo_succ (s : ByteArray) (n : Nat) : unpackTo s (n + 1) = unpackTo s n ++ [bitAt s n] := by simp [unpackTo, List.range_succ]
theorem unpackTo_length (s : ByteArray) (n : Nat) : (unpackTo s n).length = n := by simp [unpackTo]
end Go.Proofs.Ytbmdjfolfmgmmag
namespace Go.Proofs.Ytbmdjfolfmgmmag
open Go.ChangeShapes Go.WideShapes Go.ChangeAt Go.RowKit
theorem u8_bit (x : Int) (h0 : 0 ≤ x) (h1 : x < 256) : bits .and .u8 x 1 = x % 2 := by
  rw [u8_and x 1 h0 h1 (by decide) (by decide), show (1 : Int).toNat = 1 from rfl, Nat.and_one_is_mod]
  omega
theorem div_pow_bd (x : Int) (e : Nat) (h0 : 0 ≤ x) (h1 : x < 256) : 0 ≤ x / 2 ^ e ∧ x / 2 ^ e < 256 := by
  have hp : (0 : Int) < 2 ^ e := Int.pow_pos (by decide)
  have h := Int.ediv_nonneg h0 (Int.le_of_lt hp)
  refine ⟨h, ?_⟩
  have : x / 2 ^ e ≤ x := Int.ediv_le_self _ h0
  omega
theorem unp_bit (s : ByteArray) (k : Nat) (h : k / 8 < s.size) : bits .and .u8 ((s[k / 8].toNat : Int) / 2 ^ (7 - k % 8)) 1 = bitAt s k := by
  have hb := byteAt_bd s (k / 8)
  rw [← byteAt_eq s _ h]
  have hd := div_pow_bd (byteAt s (k / 8)) (7 - k % 8) hb.1 (by omega)
  rw [u8_bit _ hd.1 hd.2]
  rfl
theorem unp_set (s : ByteArray) (N k : Nat) (h : k < N) (x : Int) (hx : x = bitAt s k) : (unpackTo s k ++ List.replicate (N - k) 0).set k x = unpackTo s (k + 1) ++ List.replicate (N - (k + 1)) 0 := by
  rw [show N - k = (N - (k + 1)) + 1 from by omega, set_fill _ _ _ _ (unpackTo_length s k), unpackTo_succ, hx]
set_option maxHeartbeats 1000000 in
theorem unpack_any (s : ByteArray) (n : Int) (w : World) (hm : s.size ≤ 140737488355328) :
    Calls Try.prog 51 #[.string s, .int .i64 n] w fun e w' => ∃ v, e = .returned (.tuple #[v, .int .i64 (unpackErr s n)]) ∧ Own w' w.heap.size v (unpackL s n) ∧ Below w.heap.size w w' := by
  by_cases h1 : n < 0
  · have he : unpackErr s n = 1 := by unfold unpackErr; rw [if_pos (.inl h1)]
    have hL : unpackL s n = [] := by unfold unpackL; rw [he]; rfl
    rw [he, hL]
    go_enter Try.func51, Try.ntmps51
    go_wp2
    go_ret2
    exact ⟨_, rfl, Own.nil _ _, Below.refl _ _⟩
  · have h1' : decide (n < 0) = false := by simpa using h1
    by_cases h2 : 8 * (s.size : Int) < n
    · have he : unpackErr s n = 1 := by unfold unpackErr; rw [if_pos (.inr h2)]
      have hL : unpackL s n = [] := by unfold unpackL; rw [he]; rfl
      rw [he, hL]
      go_enter Try.func51, Try.ntmps51
      go_wp2
      go_ret2
      exact ⟨_, rfl, Own.nil _ _, Below.refl _ _⟩
    · have h2' : decide (8 * (s.size : Int) < n) = false := by simpa using h2
      by_cases h3 : 4096 < n
      · have he : unpackErr s n = 2 := by unfold unpackErr; rw [if_neg (by omega), if_pos h3]
        have hL : unpackL s n = [] := by unfold unpackL; rw [he]; rfl
        rw [he, hL]
        go_enter Try.func51, Try.ntmps51
        go_wp2
        go_ret2
        exact ⟨_, rfl, Own.nil _ _, Below.refl _ _⟩
      · have he : unpackErr s n = 0 := by unfold unpackErr; rw [if_neg (by omega), if_neg h3]
        have hL : unpackL s n = unpackTo s n.toNat := by unfold unpackL; rw [if_pos he]
        rw [he, hL]
        clear hL he
        obtain ⟨N, rfl⟩ := Int.eq_ofNat_of_zero_le (show 0 ≤ n by omega)
        rw [Int.toNat_natCast]
        go_enter Try.func51, Try.ntmps51
        go_wp2_with (at_make; refine wpList_makeBytes w.heap.size w N rfl _ _ rfl _ _ rfl rfl rfl rfl (by omega) (Below.refl _ _) (Nat.le_refl _) ?_)
        intro w1 hown1 hbel1 hsz1
        go_wp2
        go_loopw [23] (fun i wr => ∃ k : Nat, k ≤ N ∧ i = .int .i64 k ∧ Own wr w.heap.size (.slice (some ⟨w.heap.size, 0, none⟩) N N) (unpackTo s k ++ List.replicate (N - k) 0) ∧ Below w.heap.size w wr) (fun i _ => N - (intOf i).toNat)
        case atStart => exact ⟨0, Nat.zero_le _, rfl, hown1, hbel1⟩
        case round =>
          clear hown1 hbel1
          obtain ⟨k, hk, rfl, hown, hbel⟩ := hrel
          by_cases hlt : k < N
          · have hll : (unpackTo s k ++ List.replicate (N - k) 0).length = N := hown.len
            have hc := hown.cell (i := k) (by omega)
            have hf := hown.free k
            have hi8 : (k : Int) / 8 < s.size := by omega
            clear hll
            go_wp2
            go_roundw
            case rel => exact ⟨k + 1, by omega, by go_num, unp_set s N k hlt _ (unp_bit s k (by omega)) ▸ hown.set k _, hbel.setCell (Nat.le_refl _) _⟩
            case measure => simp [intOf]; omega
          · go_wp2
            go_ret2
            obtain rfl : k = N := by omega
            rw [Nat.sub_self, List.replicate_zero, List.append_nil] at hown
            exact ⟨_, rfl, hown, hbel⟩
end Go.Proofs.Ytbmdjfolfmgmmag
