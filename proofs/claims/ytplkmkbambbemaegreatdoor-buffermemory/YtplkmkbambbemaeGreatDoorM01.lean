import Derived.Test.YtplkmkbambbemaeGreatDoorRows
import Derived.WalkKit
import Derived.ProofKit
import Derived.OpenShut
import Derived.ShutString
import Derived.ChangeOld
import Derived.Below
import Derived.WalkLawsBesides
import Derived.WalkSpells
import Derived.BigQuiet
import Derived.Deep.QuietTactic
import Derived.Laws.CopyOwn
import Derived.Laws.AppendOwnNone
import Derived.Laws.BitsAllLaws
import Derived.Laws.BytesArg
import Derived.Laws.BytesString
import Derived.Deep.RegionLaw
namespace Go.Proofs.YtplkmkbambbemaeGreatDoor
open Go.ChangeShapes Go.WideShapes Go.ChangeAt Go.RowKit
/-- What a reader is told of a slice of integers: where it has elements, it leads to a row of cells that hold them. -/
def Rd (k : IntKind) (w : World) (a : Option Addr) (zs : List Int) : Prop :=
  zs ≠ [] → ∃ b off, a = some ⟨b, off, none⟩ ∧ ∀ j, j < zs.length → w.cell? ⟨b, off + j, none⟩ = some (.int k (zs.getD j 0))
theorem Rd.at {k : IntKind} {w : World} {a : Option Addr} {zs : List Int} (h : Rd k w a zs) {i : Nat} (hi : i < zs.length) :
    ∃ b off, a = some ⟨b, off, none⟩ ∧ ∀ j, j < zs.length → w.cell? ⟨b, off + j, none⟩ = some (.int k (zs.getD j 0)) :=
  h (by intro e; subst e; simp at hi)
theorem Rd.below {k : IntKind} {w w' : World} {a : Option Addr} {zs : List Int} (h : Rd k w a zs) (hb : Below w.heap.size w w') : Rd k w' a zs := by
  intro hne
  obtain ⟨b, off, rfl, hc⟩ := h hne
  exact ⟨b, off, rfl, fun j hj => (hb.cell (World.block_lt_of_cell? w _ (hc j hj))).trans (hc j hj)⟩
theorem Rd.nil (k : IntKind) (w : World) (a : Option Addr) : Rd k w a [] := fun h => absurd rfl h
/-- A row that a call owns can be read. -/
theorem Rd.own {k : IntKind} {w : World} {base : Nat} {e : TypeId} {a : Option Addr} {n c : Nat} {zs : List Int} (h : w.ownsRow base e 1 (.slice a n c) zs.length (zs.map (Value.int k))) : Rd k w a zs := by
  intro hne
  rcases h.2 with ⟨_, h0⟩ | ⟨g, cap, cur, h', _⟩
  · exact absurd (List.eq_nil_of_length_eq_zero h0) hne
  · simp only [Value.slice.injEq] at h'
    obtain ⟨rfl, rfl, rfl⟩ := h'
    refine ⟨g, 0, rfl, fun j hj => ?_⟩
    rw [Nat.zero_add, h.cellAt j (by omega)]
    simp [List.getD, hj]
theorem rd_block {k : IntKind} {w : World} {b : Nat} {e : TypeId} {m : Nat × Nat} {zs : List Int} (h : w.heap[b]? = some (.cells (zs.map (Value.int k)).toArray e m)) : Rd k w (some ⟨b, 0, none⟩) zs := by
  intro _
  refine ⟨b, 0, rfl, fun j hj => ?_⟩
  rw [Nat.zero_add, cell_of_row w b j _ e m h]
  simp [List.getD, hj]
/-- One call behind another: nothing that was there at the first has turned. -/
theorem bthen {w w1 w2 : World} (h1 : Below w.heap.size w w1) (h2 : Below w1.heap.size w1 w2) : Below w.heap.size w w2 := h1.trans (h2.mono h1.size)
theorem Rd.take {k : IntKind} {w : World} {b o : Nat} {zs : List Int} (h : ∀ j, j < zs.length → w.cell? ⟨b, o + j, none⟩ = some (.int k (zs.getD j 0))) (n : Nat) : Rd k w (some ⟨b, o, none⟩) (zs.take n) := by
  intro _
  refine ⟨b, o, rfl, fun j hj => ?_⟩
  have hj' : j < zs.length ∧ j < n := by rw [List.length_take] at hj; omega
  rw [h j hj'.1]
  simp [List.getD, hj'.2]
theorem Rd.drop {k : IntKind} {w : World} {b o : Nat} {zs : List Int} (h : ∀ j, j < zs.length → w.cell? ⟨b, o + j, none⟩ = some (.int k (zs.getD j 0))) (n : Nat) : Rd k w (some ⟨b, o + n, none⟩) (zs.drop n) := by
  intro _
  refine ⟨b, o + n, rfl, fun j hj => ?_⟩
  have hj' : n + j < zs.length := by rw [List.length_drop] at hj; omega
  have := h (n + j) hj'
  rw [← Nat.add_assoc] at this
  rw [this]
  simp [List.getD]
theorem hid {p : Prop} (h : p) : Hid p := h
end Go.Proofs.YtplkmkbambbemaeGreatDoor
namespace Go.Proofs.YtplkmkbambbemaeGreatDoor
open Go.RowKit
/-- Every number a byte. -/
def Bytes (zs : List Int) : Prop := ∀ n ∈ zs, 0 ≤ n ∧ n ≤ 255
/-- Only 0 and 1. -/
def Bits (zs : List Int) : Prop := ∀ k, 0 ≤ zs.getD k 0 ∧ zs.getD k 0 ≤ 1
/-- Only 0 and 1 up to place k. -/
def Okay (zs : List Int) (k : Nat) : Prop := ∀ j, j < k → zs.getD j 0 ≤ 1
/-- What is wrong with bits: 0, 1 (a byte that is none), 2 (too many). -/
def errOf (zs : List Int) : Int := if zs.all (fun x => decide (x ≤ 1)) then (if 4096 < zs.length then 2 else 0) else 1
theorem Bytes.at {zs : List Int} (h : Bytes zs) (k : Nat) : 0 ≤ zs.getD k 0 ∧ zs.getD k 0 ≤ 255 := by
  by_cases hk : k < zs.length
  · have : zs.getD k 0 = zs[k] := by simp [List.getD, hk]
    rw [this]; exact h _ (List.getElem_mem hk)
  · have : zs.getD k 0 = 0 := by simp [List.getD, Nat.le_of_not_lt hk]
    rw [this]; omega
theorem okay_all {zs : List Int} (h : Okay zs zs.length) : zs.all (fun x => decide (x ≤ 1)) = true := by
  rw [List.all_eq_true]
  intro x hx
  obtain ⟨k, hk, rfl⟩ := List.getElem_of_mem hx
  have := h k hk
  simpa [List.getD, hk] using this
theorem all_okay {zs : List Int} (h : zs.all (fun x => decide (x ≤ 1)) = true) (k : Nat) : zs.getD k 0 ≤ 1 := by
  rw [List.all_eq_true] at h
  by_cases hk : k < zs.length
  · have := h _ (List.getElem_mem hk)
    simpa [List.getD, hk] using this
  · simp [List.getD, Nat.le_of_not_lt hk]
theorem err_bad {zs : List Int} {k : Nat} (h : ¬ zs.getD k 0 ≤ 1) : errOf zs = 1 := by
  unfold errOf
  rw [if_neg]
  intro e
  exact h (all_okay e k)
theorem err_long {zs : List Int} (h : Okay zs zs.length) (hl : 4096 < zs.length) : errOf zs = 2 := by
  unfold errOf
  rw [if_pos (okay_all h), if_pos hl]
theorem err_none {zs : List Int} (h : Okay zs zs.length) (hl : ¬ 4096 < zs.length) : errOf zs = 0 := by
  unfold errOf
  rw [if_pos (okay_all h), if_neg hl]
theorem Okay.succ {zs : List Int} {k : Nat} (h : Okay zs k) (e : zs.getD k 0 ≤ 1) : Okay zs (k + 1) := fun j hj => by
  by_cases hjk : j = k
  · subst hjk; exact e
  · exact h j (by omega)
/-- Where nothing is wrong. -/
theorem err_zero {zs : List Int} (h : errOf zs = 0) : (∀ k, zs.getD k 0 ≤ 1) ∧ zs.length ≤ 4096 := by
  unfold errOf at h
  split at h
  · rename_i ha
    refine ⟨all_okay ha, ?_⟩
    split at h
    · simp at h
    · omega
  · simp at h
theorem err_cases (zs : List Int) : errOf zs = 0 ∨ errOf zs = 1 ∨ errOf zs = 2 := by
  unfold errOf
  split
  · split
    · exact .inr (.inr rfl)
    · exact .inl rfl
  · exact .inr (.inl rfl)
theorem ret_int {k : IntKind} {a b : Int} (h : a = b) : Ending.returned (.int k a) = .returned (.int k b) := by rw [h]
end Go.Proofs.YtplkmkbambbemaeGreatDoor
namespace Go.Proofs.YtplkmkbambbemaeGreatDoor
open Go.ChangeShapes Go.WideShapes Go.ChangeAt Go.RowKit
set_option maxHeartbeats 400000 in
theorem check_any (zs : List Int) (a : Option Addr) (c : Nat) (w : World) (ha : Rd .u8 w a zs) (hz : zs.length ≤ maxLen) :
    Calls Tryz.prog 38 #[.slice a zs.length c] w fun e w' => e = .returned (.int .i64 (errOf zs)) ∧ w = w' := by
  unfold maxLen at hz
  go_enter Tryz.func38, Tryz.ntmps38
  go_wp2
  go_loop [7] (fun i => ∃ k : Nat, k ≤ zs.length ∧ i = .int .i64 k ∧ Hid (Okay zs k)) (fun i => zs.length - (intOf i).toNat)
  case atStart => exact ⟨0, Nat.zero_le _, rfl, fun j hj => by omega⟩
  case round =>
    obtain ⟨k, hk, rfl, hok⟩ := hrel
    by_cases hlt : k < zs.length
    · obtain ⟨b1, o1, rfl, hc1⟩ := ha.at hlt
      have g1 := hc1 k hlt
      clear hc1
      obtain ⟨x, hx⟩ : ∃ x, x = zs.getD k 0 := ⟨_, rfl⟩
      rw [← hx] at g1
      have HX : Hid (x = zs.getD k 0) := hx
      clear hx
      by_cases h1 : x ≤ 1
      · go_wp2
        go_round
        case rel => exact ⟨k + 1, by omega, by go_num, hok.out.succ (HX.out ▸ h1)⟩
        case measure => simp [intOf]; omega
      · go_wp2
        go_ret
        exact ⟨ret_int (err_bad (k := k) (by rw [← HX.out]; omega)).symm, rfl⟩
    · have hkl : k = zs.length := by omega
      subst hkl
      by_cases hl : 4096 < zs.length
      · go_wp2
        go_ret
        exact ⟨ret_int (err_long hok.out hl).symm, rfl⟩
      · go_wp2
        go_ret
        exact ⟨ret_int (err_none hok.out hl).symm, rfl⟩
end Go.Proofs.YtplkmkbambbemaeGreatDoor
namespace Go.Proofs.YtplkmkbambbemaeGreatDoor
open Go.ChangeShapes Go.WideShapes Go.ChangeAt Go.RowKit
theorem Tryz.info5 : (Tryz.prog.info? 5).map (fun i => (i.zero, i.size, i.bytes)) = some (some (.int .u8 0), 1, 1) := by kernel_rfl
/-- A list of bytes in memory of one's own. -/
def Own (w : World) (B : Nat) (v : Value) (L : List Int) : Prop := w.ownsRow B 5 1 v L.length (L.map (Value.int .u8))
theorem Own.nil (w : World) (B : Nat) : Own w B (.slice none 0 0) [] := World.ownsRow_nil _ _ _ _
theorem Own.snoc {w : World} {B : Nat} {v : Value} {L : List Int} {x : Int} (h : w.ownsRow B 5 1 v (L.length + 1) (L.map (Value.int .u8) ++ [.int .u8 x])) : Own w B v (L ++ [x]) := by
  unfold Own
  rw [List.length_append, List.map_append]
  exact h
theorem own_blocks {w : World} {B : Nat} {v : Value} {L : List Int} (h : Own w B v L) : ∀ k, v.ownBlock = some k → B ≤ k := fun k hk => (h.lt k hk).1
/-- 'make([]byte, N)'. -/
theorem wpList_makeBytes {w : World} {ops : Array Oper} {rest : List Oper} {o : Oper} {a : Act} {Q : Exit → Act → World → Prop} (B : Nat) (w00 : World) (N : Nat) (hgd : o.guard = none) (l c : Operand)
    (ho : o.op = Op.makeSlice 55 l c) (x y : Int) (hl : a.eval l = .int .i64 x) (hc : a.eval c = .int .i64 y) (hx : x = (N : Int)) (hy : y = (N : Int)) (hN : N ≤ 70368744177664) (hbel : Below B w00 w) (hB : B ≤ w.heap.size)
    (h : ∀ w', Own w' B (.slice (some ⟨w.heap.size, 0, none⟩) N N) (List.replicate N 0) → Below B w00 w' → w.heap.size < w'.heap.size → wpList Tryz.prog ops Q rest (a.put o.dst (.slice (some ⟨w.heap.size, 0, none⟩) N N)) w') :
    wpList Tryz.prog ops Q (o :: rest) a w := by
  obtain ⟨i0, hi, hz0, hz1, hz2⟩ := info_parts Tryz.info5
  refine wpList_make_full w hgd l c 55 ho B 5 i0 (.int .u8 0) 1 Tryz.underlying55 hi hz0 hz1 .i64 .i64 x y N hl hc hx hy (by rw [hz2]; omega) (by unfold maxLen; omega) hB fun w' h1 h2 => ?_
  have e : (madeCells (Value.cells (.int .u8 0)) (N * 1)).toList = List.replicate N (.int .u8 0) := by
    rw [Nat.mul_one]; exact toList_madeCells_one _ _
  rw [e] at h1
  have hlt := (h1.lt w.heap.size rfl).2
  refine h w' ?_ (hbel.grown h2 hB (by intro k hk; cases hk)) hlt
  unfold Own
  rw [List.length_replicate, List.map_replicate]
  exact h1
theorem Own.cell {w : World} {B g N c : Nat} {L : List Int} (h : Own w B (.slice (some ⟨g, 0, none⟩) N c) L) {i : Nat} (hi : i < L.length) : w.cell? ⟨g, i, none⟩ = some (.int .u8 (L.getD i 0)) := by
  obtain ⟨b, off, e, hc⟩ := (Rd.own (k := .u8) h) (by intro e; subst e; simp at hi)
  simp only [Option.some.injEq, Addr.mk.injEq, and_true] at e
  obtain ⟨rfl, rfl⟩ := e
  have := hc i hi
  rwa [Nat.zero_add] at this
theorem Own.len {w : World} {B g N c : Nat} {L : List Int} (h : Own w B (.slice (some ⟨g, 0, none⟩) N c) L) : L.length = N := by
  rcases h.2 with ⟨h', _⟩ | ⟨g', cap, cur, h', _⟩
  · simp at h'
  · simp only [Value.slice.injEq] at h'
    exact h'.2.1.symm
theorem Own.block {w : World} {B g N c : Nat} {L : List Int} (h : Own w B (.slice (some ⟨g, 0, none⟩) N c) L) : B ≤ g ∧ g < w.heap.size := h.lt g rfl
theorem Own.free {w : World} {B g N c : Nat} {L : List Int} (h : Own w B (.slice (some ⟨g, 0, none⟩) N c) L) (i : Nat) : w.frozen? ⟨g, i, none⟩ = false := by
  have e := h.len
  unfold Own at h
  rw [e] at h
  exact h.frozenAt i
theorem Own.set {w : World} {B g N c : Nat} {L : List Int} (h : Own w B (.slice (some ⟨g, 0, none⟩) N c) L) (i : Nat) (x : Int) : Own (w.setCell ⟨g, i, none⟩ (.int .u8 x)) B (.slice (some ⟨g, 0, none⟩) N c) (L.set i x) := by
  have e := h.len
  unfold Own at h ⊢
  rw [List.length_set, e, List.map_set]
  rw [e] at h
  exact (h.stored i _).1
theorem Own.drew {w : World} {B : Nat} {v : Value} {L : List Int} (h : Own w B v L) : Own w.drew B v L := h
theorem Own.rd {w : World} {B n c : Nat} {a : Option Addr} {L : List Int} (h : Own w B (.slice a n c) L) : Rd .u8 w a L := Rd.own h
theorem Own.shape {w : World} {B : Nat} {v : Value} {L : List Int} (h : Own w B v L) : ∃ a c, v = .slice a L.length c ∧ (L ≠ [] → ∃ g, a = some ⟨g, 0, none⟩) ∧ L.length ≤ c ∧ c ≤ maxLen := by
  rcases h.2 with ⟨h', h0⟩ | ⟨g, cap, cur, h', _, _, h1, h2, _⟩
  · refine ⟨none, 0, by rw [h', h0], fun hne => absurd (List.eq_nil_of_length_eq_zero h0) hne, by omega, by unfold maxLen; omega⟩
  · exact ⟨some ⟨g, 0, none⟩, cap, h', fun _ => ⟨g, rfl⟩, h1, h2⟩
theorem Own.below {w w' : World} {B : Nat} {v : Value} {L : List Int} (h : Own w B v L) (hb : Below w.heap.size w w') : Own w' B v L := by
  refine ⟨h.1, ?_⟩
  rcases h.2 with h' | ⟨g, cap, cur, h1, h2, h3, h4⟩
  · exact .inl h'
  · have hlt : g < w.heap.size := by
      rcases Nat.lt_or_ge g w.heap.size with hl | hl
      · exact hl
      · rw [Array.getElem?_eq_none hl] at h3; cases h3
    exact .inr ⟨g, cap, cur, h1, h2, (hb.block g hlt).trans h3, h4⟩
theorem Own.mono {w : World} {B B' : Nat} {v : Value} {L : List Int} (h : Own w B v L) (hB : B' ≤ B) : Own w B' v L := by
  refine ⟨h.1, ?_⟩
  rcases h.2 with h' | ⟨g, cap, cur, h1, h2, h3⟩
  · exact .inl h'
  · exact .inr ⟨g, cap, cur, h1, by omega, h3⟩
/-- 'string(v)', v a list of bytes that can be read. -/
theorem conv_rd {w : World} {a : Option Addr} {L : List Int} (h : Rd .u8 w a L) (c : Nat) : (convert 55 9 (.slice a L.length c)).run Tryz.prog w = .ok (.string (strOfNums L)) w := by
  cases L with
  | nil =>
    rw [run_convert_bytes_string w 55 9 5 a ([] : List Int).length c Tryz.underlying55 Tryz.underlying5 Tryz.underlying9]
    cases a with
    | none => simp [Conv.bytesToString, strOfNums]; rfl
    | some x => exact (run_bytesToString w x 0 c [] (by simp [loadCells]; rfl)).trans (by simp [strOfNums]; rfl)
  | cons y L =>
    obtain ⟨b, off, rfl, hc⟩ := h (by simp)
    exact run_convert_bytes_arg w 55 5 Tryz.underlying55 Tryz.underlying5 b off _ c _ rfl hc 9 Tryz.underlying9
/-- What a row holds while it is filled from its head on. -/
theorem set_fill (A : List Int) (k m : Nat) (x : Int) (hA : A.length = k) : (A ++ List.replicate (m + 1) 0).set k x = (A ++ [x]) ++ List.replicate m 0 := by
  subst hA
  rw [List.set_append_right _ _ (Nat.le_refl _), Nat.sub_self, List.replicate_succ, List.set_cons_zero, List.append_assoc]
  rfl
end Go.Proofs.YtplkmkbambbemaeGreatDoor
namespace Go.Proofs.YtplkmkbambbemaeGreatDoor
open Go.RowKit
/-- The row behind a copy: M's first n laid over L from place off on. -/
def laidOver (L : List Int) (off : Nat) (M : List Int) : List Int := L.take off ++ (M ++ L.drop (off + M.length))
theorem Tryz.one5 : (Tryz.prog.info? 5).map (·.size) = some 1 := by kernel_rfl
/-- A row of one's own that has no spare room is known whole. -/
theorem Own.whole {w : World} {B g N : Nat} {L : List Int} (h : Own w B (.slice (some ⟨g, 0, none⟩) N N) L) : w.heap[g]? = some (.cells (L.map (Value.int .u8)).toArray 5 (0, 0)) ∧ B ≤ g ∧ N ≤ maxLen := by
  have hl := h.len
  rcases h.2 with ⟨h', _⟩ | ⟨g', cap, cur, h', hB, hg, _, hm, hcs, ht⟩
  · simp at h'
  · simp only [Value.slice.injEq, Option.some.injEq, Addr.mk.injEq, and_true] at h'
    obtain ⟨rfl, _, rfl⟩ := h'
    refine ⟨?_, hB, hm⟩
    rw [hg, ← ht, List.take_of_length_le (by simp; omega)]
theorem own_of_whole {w : World} {B g N : Nat} {L : List Int} (hg : w.heap[g]? = some (.cells (L.map (Value.int .u8)).toArray 5 (0, 0))) (hB : B ≤ g) (hl : L.length = N) (hm : N ≤ maxLen) : Own w B (.slice (some ⟨g, 0, none⟩) N N) L := by
  subst hl
  exact ⟨by simp, .inr ⟨g, _, _, rfl, hB, hg, Nat.le_refl _, hm, by simp, List.take_of_length_le (by simp)⟩⟩
theorem run_copy_own {w : World} {B g N : Nat} {L M : List Int} {ad : Option Addr} (hown : Own w B (.slice (some ⟨g, 0, none⟩) N N) L) (hrd : Rd .u8 w ad M) (ty : TypeId) (dp : Option Addr) (dLen dCap sCap off n : Nat) (hmin : n = min M.length dLen)
    (hdp : 0 < n → dp = some ⟨g, off, none⟩) (hfit : off + n ≤ N) :
    ∃ w', (Builtin.copy_ #[55, 55] ty #[.slice dp dLen dCap, .slice ad M.length sCap]).run Tryz.prog w = .ok (goInt n) w' ∧
      Own w' B (.slice (some ⟨g, 0, none⟩) N N) (laidOver L off (M.take n)) ∧ w.grownBy w' (some g) := by
  obtain ⟨hg, hB, hm⟩ := hown.whole
  have hl := hown.len
  by_cases h0 : n = 0
  · refine ⟨w, ?_, ?_, ⟨rfl, rfl, rfl, Nat.le_refl _, fun _ _ _ => rfl⟩⟩
    · rw [h0]
      exact run_copy_none (P := Tryz.prog) w 55 55 ty 5 dp ad dLen dCap M.length sCap Tryz.underlying55 Tryz.one5 (hmin.symm.trans h0)
    · rw [h0]
      simpa [laidOver] using hown
  · obtain rfl := hdp (by omega)
    have hM : M ≠ [] := by rintro rfl; simp at hmin; omega
    obtain ⟨b, o, rfl, hc⟩ := hrd hM
    have hn : ((M.take n).map (Value.int .u8)).length = n := by simp; omega
    have hrun := run_copy_row (P := Tryz.prog) w 55 55 ty 5 g off dLen dCap ⟨b, o, none⟩ M.length sCap _ 5 ((M.take n).map (Value.int .u8)) Tryz.underlying55 Tryz.one5 hg (hn.trans hmin) ?_ ?_ ?_
    · rw [hn] at hrun
      refine ⟨_, hrun, ?_, ⟨rfl, rfl, rfl, by simp, fun k _ hk => setRow_other w g k _ (fun e => hk (by simp [e]))⟩⟩
      refine own_of_whole ?_ hB ?_ hm
      · refine (setRow_heap w g _ _ 5 _ hg).trans ?_
        have hlen : (M.take n).length = n := by simp; omega
        simp [laidOver, hlen]
      · simp [laidOver]; omega
    · intro j u hj
      have hjl : j < n := by
        rcases Nat.lt_or_ge j n with h' | h'
        · exact h'
        · rw [List.getElem?_eq_none (by rw [hn]; exact h')] at hj; cases hj
      have e1 : (⟨b, o, none⟩ : Addr).add j = ⟨b, o + j, none⟩ := by unfold Addr.add; split <;> simp_all
      have hjM : j < M.length := by omega
      rw [e1, hc j hjM, ← hj]
      simp [List.getD, hjM, hjl]
    · rw [hn]; simp; omega
    · intro u hu
      obtain ⟨y, _, rfl⟩ := List.mem_map.1 hu
      rfl
/-- 'copy(d, s)', d lying in a row of one's own that has no spare room. -/
theorem wpList_copyBytes {w : World} {ops : Array Oper} {rest : List Oper} {o : Oper} {a : Act} {Q : Exit → Act → World → Prop} {B g N : Nat} {L M : List Int} {ad : Option Addr} (w00 : World) (hown : Own w B (.slice (some ⟨g, 0, none⟩) N N) L) (hrd : Rd .u8 w ad M)
    (hgd : o.guard = none) (d s : Operand) (ho : o.op = .call { callee := .builtin .copy, args := #[d, s], argTypes := #[55, 55] }) (dp : Option Addr) (dLen dCap sCap off n : Nat) (hmin : n = min M.length dLen) (hd : a.eval d = .slice dp dLen dCap) (hs : a.eval s = .slice ad M.length sCap)
    (hdp : 0 < n → dp = some ⟨g, off, none⟩) (hfit : off + n ≤ N) (hbel : Below B w00 w)
    (h : ∀ w', Own w' B (.slice (some ⟨g, 0, none⟩) N N) (laidOver L off (M.take n)) → Below B w00 w' → w.heap.size ≤ w'.heap.size → wpList Tryz.prog ops Q rest (a.put o.dst (goInt n)) w') :
    wpList Tryz.prog ops Q (o :: rest) a w := by
  obtain ⟨w', hrun, h1, h2⟩ := run_copy_own hown hrd o.type dp dLen dCap sCap off n hmin hdp hfit
  refine wpList_plain hgd fun K hK => ?_
  unfold Oper.wp
  simp [execOp, ho, resolve, invoke, builtin, hd, hs, hrun, Result.andThen]
  have hB := hown.block
  exact hK _ _ (h w' h1 (hbel.grown h2 (by omega) (by intro k hk; simp at hk; omega)) h2.size)
end Go.Proofs.YtplkmkbambbemaeGreatDoor
namespace Go.Proofs.YtplkmkbambbemaeGreatDoor
open Go.ChangeShapes Go.WideShapes Go.ChangeAt Go.RowKit
/-- Numbers that fill a block. -/
def ArrAt (k : IntKind) (T : TypeId) (w : World) (g : Nat) (L : List Int) : Prop := w.heap[g]? = some (.cells (L.map (Value.int k)).toArray T (0, 0))
theorem ArrAt.cell {k : IntKind} {T : TypeId} {w : World} {g : Nat} {L : List Int} (h : ArrAt k T w g L) {j : Nat} (hj : j < L.length) : w.cell? ⟨g, j, none⟩ = some (.int k (L.getD j 0)) := by
  rw [cell_of_row w g j _ T (0, 0) h]
  simp [List.getD, hj]
theorem ArrAt.free {k : IntKind} {T : TypeId} {w : World} {g : Nat} {L : List Int} (h : ArrAt k T w g L) (j : Nat) : w.frozen? ⟨g, j, none⟩ = false := frozen_of_row w g j _ T h
theorem ArrAt.set {k : IntKind} {T : TypeId} {w : World} {g : Nat} {L : List Int} (h : ArrAt k T w g L) (j : Nat) (x : Int) : ArrAt k T (w.setCell ⟨g, j, none⟩ (.int k x)) g (L.set j x) := by
  unfold ArrAt
  rw [heap_setCell_same w g j _ T _ h, List.map_set]
  simp
theorem ArrAt.other {k : IntKind} {T : TypeId} {w : World} {g : Nat} {L : List Int} (h : ArrAt k T w g L) (p : Addr) (v : Value) (hp : g ≠ p.block) : ArrAt k T (w.setCell p v) g L := by
  unfold ArrAt
  rw [heap_setCell_other w p g v hp]
  exact h
theorem ArrAt.below {k : IntKind} {T : TypeId} {w w' : World} {g B : Nat} {L : List Int} (h : ArrAt k T w g L) (hb : Below B w w') (hg : g < B) : ArrAt k T w' g L := (hb.block g hg).trans h
theorem ArrAt.lt {k : IntKind} {T : TypeId} {w : World} {g : Nat} {L : List Int} (h : ArrAt k T w g L) : g < w.heap.size := by
  rcases Nat.lt_or_ge g w.heap.size with e | e
  · exact e
  · have : w.heap[g]? = none := Array.getElem?_eq_none e
    unfold ArrAt at h
    rw [this] at h; cases h
theorem ArrAt.alloc {k : IntKind} {T : TypeId} {w : World} {g : Nat} {L : List Int} (h : ArrAt k T w g L) (o : Obj) : ArrAt k T (w.alloc o) g L := (Below.heap_alloc w o g h.lt).trans h
theorem ArrAt.rd {k : IntKind} {T : TypeId} {w : World} {g : Nat} {A x Z : List Int} (h : ArrAt k T w g (A ++ x ++ Z)) {o : Nat} (ho : o = A.length) : Rd k w (some ⟨g, o, none⟩) x := by
  subst ho
  intro _
  refine ⟨g, A.length, rfl, fun j hj => ?_⟩
  rw [h.cell (by simp; omega)]
  have e : (A ++ x ++ Z).getD (A.length + j) 0 = x.getD j 0 := by
    unfold List.getD
    rw [List.append_assoc, List.getElem?_append_right (by omega), Nat.add_sub_cancel_left, List.getElem?_append_left hj]
  rw [e]
theorem arr_new (k : IntKind) (T : TypeId) (w : World) (L : List Int) : ArrAt k T (w.alloc (.cells (L.map (Value.int k)).toArray T)) w.heap.size L := heap_alloc_new w _
theorem Own.arr {w : World} {B g N : Nat} {L : List Int} (h : Own w B (.slice (some ⟨g, 0, none⟩) N N) L) : ArrAt .u8 5 w g L ∧ B ≤ g ∧ N ≤ maxLen := by
  have hl := h.len
  rcases h.2 with ⟨h', _⟩ | ⟨g', cap, cur, h', hB, hg, _, hm, hcs, ht⟩
  · simp at h'
  · simp only [Value.slice.injEq, Option.some.injEq, Addr.mk.injEq, and_true] at h'
    obtain ⟨rfl, _, rfl⟩ := h'
    refine ⟨?_, hB, hm⟩
    unfold ArrAt
    rw [hg, ← ht, List.take_of_length_le (by simp; omega)]
theorem own_of_arr {w : World} {B g N : Nat} {L : List Int} (hg : ArrAt .u8 5 w g L) (hB : B ≤ g) (hl : L.length = N) (hm : N ≤ maxLen) : Own w B (.slice (some ⟨g, 0, none⟩) N N) L := by
  subst hl
  exact ⟨by simp, .inr ⟨g, _, _, rfl, hB, hg, Nat.le_refl _, hm, by simp, List.take_of_length_le (by simp)⟩⟩
/-- But for the blocks of S the world is as it was. -/
structure Kept (S : List Nat) (w w' : World) : Prop where
  os : w'.os = w.os
  tape : w'.tape = w.tape
  output : w'.output = w.output
  size : w.heap.size ≤ w'.heap.size
  block : ∀ k, k < w.heap.size → k ∉ S → w'.heap[k]? = w.heap[k]?
theorem Kept.refl (S : List Nat) (w : World) : Kept S w w := ⟨rfl, rfl, rfl, Nat.le_refl _, fun _ _ _ => rfl⟩
theorem Kept.trans {S : List Nat} {a b c : World} (h : Kept S a b) (k : Kept S b c) : Kept S a c :=
  ⟨k.os.trans h.os, k.tape.trans h.tape, k.output.trans h.output, Nat.le_trans h.size k.size, fun i hi hn => (k.block i (Nat.lt_of_lt_of_le hi h.size) hn).trans (h.block i hi hn)⟩
theorem Kept.wider {S S' : List Nat} {a b : World} (h : Kept S a b) (hs : ∀ x ∈ S, x ∈ S') : Kept S' a b := ⟨h.os, h.tape, h.output, h.size, fun i hi hn => h.block i hi (fun e => hn (hs i e))⟩
theorem Kept.drew {S : List Nat} {a w : World} (h : Kept S a w) : Kept S a w.drew := ⟨h.os, h.tape, h.output, h.size, h.block⟩
theorem Kept.drewN {S : List Nat} {a w : World} (h : Kept S a w) (n : Nat) : Kept S a (w.drewN n) := ⟨h.os, h.tape, h.output, h.size, h.block⟩
theorem Kept.setCell {S : List Nat} {a w : World} (h : Kept S a w) {p : Addr} (hp : p.block ∈ S) (u : Value) : Kept S a (w.setCell p u) :=
  h.trans ⟨rfl, rfl, rfl, by simp [World.setCell], fun k _ hk => Below.heap_setCell _ _ _ _ (fun e => hk (e ▸ hp))⟩
theorem Kept.alloc {S : List Nat} {a w : World} (h : Kept S a w) (o : Obj) : Kept S a (w.alloc o) := h.trans ⟨rfl, rfl, rfl, by simp, fun k hk _ => Below.heap_alloc _ _ _ hk⟩
theorem Kept.of_below {S : List Nat} {a b : World} (h : Below a.heap.size a b) : Kept S a b := ⟨h.os, h.tape, h.output, h.size, fun k hk _ => h.block k hk⟩
theorem Kept.below {S : List Nat} {a b : World} (h : Kept S a b) {B : Nat} (hB : B ≤ a.heap.size) (hs : ∀ x ∈ S, B ≤ x) : Below B a b := ⟨h.os, h.tape, h.output, h.size, fun k hk => h.block k (by omega) (fun e => by have := hs k e; omega)⟩
theorem Kept.rd {S : List Nat} {a b : World} (h : Kept S a b) {k : IntKind} {ad : Option Addr} {zs : List Int} (hr : Rd k a ad zs) (hs : ∀ g o, ad = some ⟨g, o, none⟩ → g ∉ S) : Rd k b ad zs := by
  intro hne
  obtain ⟨g, o, rfl, hc⟩ := hr hne
  refine ⟨g, o, rfl, fun j hj => ?_⟩
  have hlt := World.block_lt_of_cell? a _ (hc j hj)
  rw [← hc j hj]
  have := h.block g hlt (hs g o rfl)
  simp only [World.cell?, this]
theorem ArrAt.kept {k : IntKind} {T : TypeId} {S : List Nat} {w w' : World} {g : Nat} {L : List Int} (h : ArrAt k T w g L) (hk : Kept S w w') (hg : g ∉ S) : ArrAt k T w' g L := (hk.block g h.lt hg).trans h
end Go.Proofs.YtplkmkbambbemaeGreatDoor
namespace Go.Proofs.YtplkmkbambbemaeGreatDoor
def AllBits (c : List Int) : Prop := ∀ x ∈ c, 0 ≤ x ∧ x ≤ 1
/-- The state behind a bit: the newest of six bits is worth 32. -/
def nxt (s x : Int) : Int := x * 32 + s / 2
/-- The three coded bits of a bit at a state. -/
def out0 (s x : Int) : Int := (x + s / 32 % 2 + s / 16 % 2 + s / 8 % 2 + s % 2) % 2
def out1 (s x : Int) : Int := (x + s / 16 % 2 + s / 8 % 2 + s / 2 % 2 + s % 2) % 2
def out2 (s x : Int) : Int := (x + s / 32 % 2 + s / 16 % 2 + s / 4 % 2 + s % 2) % 2
def sgn (c y : Int) : Int := if c = 1 then -y else y
/-- What a bit at a state brings at the place i. -/
def gain (soft : List Int) (i : Nat) (s x : Int) : Int := sgn (out0 s x) (soft.getD (3 * i) 0) + sgn (out1 s x) (soft.getD (3 * i + 1) 0) + sgn (out2 s x) (soft.getD (3 * i + 2) 0)
/-- What bits score from a place and a state on. -/
def sc (soft : List Int) : Nat → Int → List Int → Int
  | _, _, [] => 0
  | i, s, x :: c => gain soft i s x + sc soft (i + 1) (nxt s x) c
/-- The order of bits: does a list come first? -/
def ahead : List Int → List Int → Bool
  | x :: a, y :: b => if x = y then ahead a b else decide (x < y)
  | _, _ => false
/-- d is what is decoded: of those of the length n that meet a test none scores more, and of several it is the first. -/
structure Best (F : List Int → Int) (n : Nat) (d : List Int) : Prop where
  len : d.length = n
  bits : AllBits d
  most : ∀ o, o.length = n → AllBits o → F o < F d ∨ (F o = F d ∧ ahead o d = false)
def zeros6 : List Int := [0, 0, 0, 0, 0, 0]
/-- The best score from a place and a state on, r bits being left. -/
def top (soft : List Int) : Nat → Nat → Int → Int
  | 0, i, s => sc soft i s zeros6
  | r + 1, i, s => max (gain soft i s 0 + top soft r (i + 1) (nxt s 0)) (gain soft i s 1 + top soft r (i + 1) (nxt s 1))
/-- The first of the best ways. -/
def way (soft : List Int) : Nat → Nat → Int → List Int
  | 0, _, _ => []
  | r + 1, i, s => if gain soft i s 0 + top soft r (i + 1) (nxt s 0) < gain soft i s 1 + top soft r (i + 1) (nxt s 1) then 1 :: way soft r (i + 1) (nxt s 1) else 0 :: way soft r (i + 1) (nxt s 0)
theorem way_top (soft : List Int) : ∀ (r i : Nat) (s : Int), sc soft i s (way soft r i s ++ zeros6) = top soft r i s := by
  intro r
  induction r with
  | zero => intro i s; rfl
  | succ r ih =>
    intro i s
    rw [way, top]
    by_cases h : gain soft i s 0 + top soft r (i + 1) (nxt s 0) < gain soft i s 1 + top soft r (i + 1) (nxt s 1)
    · rw [if_pos h]
      show gain soft i s 1 + sc soft (i + 1) (nxt s 1) (way soft r (i + 1) (nxt s 1) ++ zeros6) = _
      rw [ih]; omega
    · rw [if_neg h]
      show gain soft i s 0 + sc soft (i + 1) (nxt s 0) (way soft r (i + 1) (nxt s 0) ++ zeros6) = _
      rw [ih]; omega
/-- VITERBI: no way scores more than the one that is decoded. -/
theorem way_best (soft : List Int) : ∀ (r i : Nat) (s : Int), Best (fun o => sc soft i s (o ++ zeros6)) r (way soft r i s)
  | 0, i, s => ⟨rfl, by intro x hx; simp [way] at hx, fun o ho _ => by
      have : o = [] := List.eq_nil_of_length_eq_zero ho
      subst this
      exact .inr ⟨rfl, rfl⟩⟩
  | r + 1, i, s => by
    have b0 := way_best soft r (i + 1) (nxt s 0)
    have b1 := way_best soft r (i + 1) (nxt s 1)
    have t0 := way_top soft r (i + 1) (nxt s 0)
    have t1 := way_top soft r (i + 1) (nxt s 1)
    have hw := way_top soft (r + 1) i s
    refine ⟨?_, ?_, fun o ho hob => ?_⟩
    · unfold way; split
      · simp [b1.len]
      · simp [b0.len]
    · unfold way; split
      · intro x hx
        rcases List.mem_cons.1 hx with rfl | hx
        · omega
        · exact b1.bits x hx
      · intro x hx
        rcases List.mem_cons.1 hx with rfl | hx
        · omega
        · exact b0.bits x hx
    · cases o with
      | nil => simp at ho
      | cons x o =>
        have hx := hob x (by simp)
        have hol : o.length = r := by simpa using ho
        have hoa : AllBits o := fun y hy => hob y (by simp [hy])
        show gain soft i s x + sc soft (i + 1) (nxt s x) (o ++ zeros6) < sc soft i s (way soft (r + 1) i s ++ zeros6) ∨ (gain soft i s x + sc soft (i + 1) (nxt s x) (o ++ zeros6) = sc soft i s (way soft (r + 1) i s ++ zeros6) ∧ ahead (x :: o) (way soft (r + 1) i s) = false)
        rw [hw]
        unfold top way
        rcases (show x = 0 ∨ x = 1 by omega) with rfl | rfl
        · rcases b0.most o hol hoa with h | ⟨h, h'⟩
          · rw [t0] at h
            left; omega
          · rw [t0] at h
            split
            · left; omega
            · rename_i hlt
              right
              refine ⟨by omega, ?_⟩
              simp [ahead, h']
        · rcases b1.most o hol hoa with h | ⟨h, h'⟩
          · rw [t1] at h
            left; omega
          · rw [t1] at h
            split
            · right
              refine ⟨by omega, ?_⟩
              simp [ahead, h']
            · rename_i hlt
              by_cases he : gain soft i s 1 + top soft r (i + 1) (nxt s 1) = gain soft i s 0 + top soft r (i + 1) (nxt s 0)
              · right
                refine ⟨by omega, ?_⟩
                simp [ahead]
              · left; omega
end Go.Proofs.YtplkmkbambbemaeGreatDoor
namespace Go.Proofs.YtplkmkbambbemaeGreatDoor
/-- Place by place, 1 and 1 are 0. -/
def addL (x y : List Int) : List Int := List.zipWith (fun a b => (a + b) % 2) x y
/-- Turn of 2^m bits. -/
def turnM : Nat → List Int → List Int
  | 0, b => b
  | m + 1, b => addL (turnM m (b.take (2 ^ m))) (turnM m (b.drop (2 ^ m))) ++ turnM m (b.drop (2 ^ m))
theorem addL_length {x y : List Int} (h : x.length = y.length) : (addL x y).length = y.length := by simp [addL, h]
theorem addL_bits (x y : List Int) : AllBits (addL x y) := fun z hz => by
  unfold addL at hz
  obtain ⟨i, hi, rfl⟩ := List.getElem_of_mem hz
  rw [List.getElem_zipWith]
  omega
theorem addL_append {a b c d : List Int} (h : a.length = c.length) : addL (a ++ b) (c ++ d) = addL a c ++ addL b d := List.zipWith_append h
theorem turn_length : ∀ (m : Nat) (b : List Int), b.length = 2 ^ m → (turnM m b).length = 2 ^ m
  | 0, b, h => h
  | m + 1, b, h => by
    have h2 : (2 : Nat) ^ (m + 1) = 2 ^ m + 2 ^ m := by rw [Nat.pow_succ]; omega
    have h0 := turn_length m (b.take (2 ^ m)) (by simp; omega)
    have h1 := turn_length m (b.drop (2 ^ m)) (by simp; omega)
    rw [turnM, List.length_append, addL_length (h0.trans h1.symm), h1, h2]
theorem turn_bits : ∀ (m : Nat) (b : List Int), AllBits b → AllBits (turnM m b)
  | 0, _, h => h
  | m + 1, b, h => fun x hx => by
    rw [turnM] at hx
    rcases List.mem_append.1 hx with h1 | h1
    · exact addL_bits _ _ x h1
    · exact turn_bits m _ (fun y hy => h y (List.mem_of_mem_drop hy)) x h1
end Go.Proofs.YtplkmkbambbemaeGreatDoor
namespace Go.Proofs.YtplkmkbambbemaeGreatDoor
open Go.ChangeShapes Go.WideShapes Go.ChangeAt Go.RowKit
def powI (n : Int) : Bool := decide (n = 1 ∨ n = 2 ∨ n = 4 ∨ n = 8 ∨ n = 16 ∨ n = 32 ∨ n = 64 ∨ n = 128 ∨ n = 256 ∨ n = 512)
def sizeErr (n : Int) : Int := if powI n then 0 else 1
theorem pow_of {n : Int} (h : powI n = true) : ∃ m : Nat, m ≤ 9 ∧ n = ((2 ^ m : Nat) : Int) := by
  unfold powI at h
  simp only [decide_eq_true_eq] at h
  rcases h with h | h | h | h | h | h | h | h | h | h
  · exact ⟨0, by omega, h⟩
  · exact ⟨1, by omega, h⟩
  · exact ⟨2, by omega, h⟩
  · exact ⟨3, by omega, h⟩
  · exact ⟨4, by omega, h⟩
  · exact ⟨5, by omega, h⟩
  · exact ⟨6, by omega, h⟩
  · exact ⟨7, by omega, h⟩
  · exact ⟨8, by omega, h⟩
  · exact ⟨9, by omega, h⟩
theorem of_pow {m : Nat} (h : m ≤ 9) : powI ((2 ^ m : Nat) : Int) = true := by
  have : m = 0 ∨ m = 1 ∨ m = 2 ∨ m = 3 ∨ m = 4 ∨ m = 5 ∨ m = 6 ∨ m = 7 ∨ m = 8 ∨ m = 9 := by omega
  rcases this with rfl | rfl | rfl | rfl | rfl | rfl | rfl | rfl | rfl | rfl <;> rfl
theorem and_tab0 : ∀ k : Fin 513, 1 ≤ k.val → (bits BinOp.and IntKind.i64 (k.val : Int) ((k.val : Int) - 1) != 0) = !powI (k.val : Int) := by decide +kernel
theorem and_tab (n : Int) (h1 : 1 ≤ n) (h2 : n ≤ 512) : (bits BinOp.and IntKind.i64 n (n - 1) != 0) = !powI n := by
  have := and_tab0 ⟨n.toNat, by omega⟩ (by show 1 ≤ n.toNat; omega)
  simp only [show ((n.toNat : Nat) : Int) = n by omega] at this
  exact this
set_option maxRecDepth 100000 in
set_option maxHeartbeats 400000 in
theorem size_any (n : Int) (w : World) (hn : -9223372036854775808 ≤ n ∧ n ≤ 9223372036854775807) :
    Calls Tryz.prog 70 #[.int .i64 n] w fun e w' => e = .returned (.int .i64 (sizeErr n)) ∧ w = w' := by
  by_cases h1 : n < 1
  · have e : sizeErr n = 1 := by unfold sizeErr powI; rw [if_neg]; simp; omega
    rw [e]
    go_enter Tryz.func70, Tryz.ntmps70
    go_wp2
    go_ret
    exact ⟨rfl, rfl⟩
  · by_cases h2 : 512 < n
    · have e : sizeErr n = 1 := by unfold sizeErr powI; rw [if_neg]; simp; omega
      rw [e]
      have d1 : decide (n < 1) = false := decide_eq_false h1
      go_enter Tryz.func70, Tryz.ntmps70
      go_wp2
      go_ret
      exact ⟨rfl, rfl⟩
    · have d1 : decide (n < 1) = false := decide_eq_false h1
      have d2 : decide (512 < n) = false := decide_eq_false h2
      have HT := hid (and_tab n (by omega) (by omega))
      go_enter Tryz.func70, Tryz.ntmps70
      go_wp2
      · go_ret
        refine ⟨ret_int ?_, rfl⟩
        have e := HT.out.symm.trans ‹(bits BinOp.and IntKind.i64 n (n - 1) != 0) = _›
        unfold sizeErr
        cases hp : powI n
        · rfl
        · rw [hp] at e; cases e
      · go_ret
        refine ⟨ret_int ?_, rfl⟩
        have e := HT.out.symm.trans ‹(bits BinOp.and IntKind.i64 n (n - 1) != 0) = _›
        unfold sizeErr
        cases hp : powI n
        · rw [hp] at e; cases e
        · rfl
theorem AllBits.at {D : List Int} (h : AllBits D) (k : Nat) : 0 ≤ D.getD k 0 ∧ D.getD k 0 ≤ 1 := by
  by_cases hk : k < D.length
  · have e : D.getD k 0 = D[k] := by simp [List.getD, hk]
    rw [e]; exact h _ (List.getElem_mem hk)
  · have e : D.getD k 0 = 0 := by simp [List.getD, Nat.le_of_not_lt hk]
    rw [e]; omega
theorem AllBits.bits {D : List Int} (h : AllBits D) : Bits D := h.at
theorem AllBits.bytes {D : List Int} (h : AllBits D) : Bytes D := fun x hx => by have := h x hx; omega
theorem xor_tab {a x : Int} (ha : 0 ≤ a ∧ a ≤ 1) (hx : 0 ≤ x ∧ x ≤ 1) : bits BinOp.xor IntKind.u8 a x = (a + x) % 2 := by
  have h1 : a = 0 ∨ a = 1 := by omega
  have h2 : x = 0 ∨ x = 1 := by omega
  rcases h1 with rfl | rfl <;> rcases h2 with rfl | rfl <;> decide +kernel
/-- While halves are joined: k places are done. -/
def mixTo (x y : List Int) (k : Nat) : List Int := addL (x.take k) (y.take k) ++ x.drop k
theorem mix_zero (x y : List Int) : mixTo x y 0 = x := by simp [mixTo, addL]
theorem mix_all {x y : List Int} (h : x.length = y.length) : mixTo x y x.length = addL x y := by
  unfold mixTo
  rw [List.take_length, List.drop_length, List.append_nil, h, List.take_length]
theorem mix_length {x y : List Int} (h : x.length = y.length) (k : Nat) : (mixTo x y k).length = x.length := by
  simp only [mixTo, List.length_append, addL, List.length_zipWith, List.length_take, List.length_drop]
  omega
theorem mix_at {x y : List Int} (h : x.length = y.length) {k : Nat} (hk : k < x.length) : (mixTo x y k).getD k 0 = x.getD k 0 := by
  have hl : (addL (x.take k) (y.take k)).length = k := by simp [addL]; omega
  unfold mixTo List.getD
  rw [List.getElem?_append_right (by omega), hl, Nat.sub_self, List.getElem?_drop, Nat.add_zero]
theorem mix_set {x y : List Int} (h : x.length = y.length) {k : Nat} (hk : k < x.length) : (mixTo x y k).set k ((x.getD k 0 + y.getD k 0) % 2) = mixTo x y (k + 1) := by
  have hl : (addL (x.take k) (y.take k)).length = k := by simp [addL]; omega
  have hk' : k < y.length := by omega
  unfold mixTo
  rw [List.set_append_right _ _ (by omega), hl, Nat.sub_self, List.drop_eq_getElem_cons hk, List.set_cons_zero, List.take_succ_eq_append_getElem hk, List.take_succ_eq_append_getElem hk', addL_append (by simp; omega), List.append_assoc]
  simp [addL, List.getD, hk, hk']
theorem row_at {A x Z : List Int} {o k : Nat} (ho : A.length = o) (hk : k < x.length) : (A ++ x ++ Z).getD (o + k) 0 = x.getD k 0 := by
  subst ho
  unfold List.getD
  rw [List.append_assoc, List.getElem?_append_right (by omega), Nat.add_sub_cancel_left, List.getElem?_append_left hk]
theorem row_set {A x Z : List Int} {o k : Nat} (ho : A.length = o) (hk : k < x.length) (v : Int) : (A ++ x ++ Z).set (o + k) v = A ++ x.set k v ++ Z := by
  subst ho
  rw [List.append_assoc, List.set_append_right _ _ (by omega), Nat.add_sub_cancel_left, List.set_append_left _ _ hk, List.append_assoc]
set_option maxRecDepth 100000 in
set_option maxHeartbeats 1000000 in
theorem join_any (A x y Z : List Int) (g o n c h : Nat) (w : World) (harr : ArrAt .u8 5 w g (A ++ (x ++ y) ++ Z)) (hA : A.length = o) (hx : x.length = h) (hy : y.length = h) (hn : n = h + h) (h0 : 1 ≤ h) (hb : n ≤ 512) (hc : n ≤ c)
    (bx : AllBits x) (bY : AllBits y) :
    Calls Tryz.prog 73 #[.slice (some ⟨g, o, none⟩) n c] w fun e w' => e = .returned (.tuple #[]) ∧ ArrAt .u8 5 w' g (A ++ (addL x y ++ y) ++ Z) ∧ Kept [g] w w' := by
  have hq : (n : Int).tdiv 2 = (h : Int) := by rw [Int.tdiv_eq_ediv_of_nonneg (by omega)]; omega
  have hle : h ≤ n := by omega
  have hne : ¬ c = h := by omega
  have HA := hid hA
  have HX := hid hx
  have HY := hid hy
  have HN := hid hn
  have HXY := hid (hx.trans hy.symm)
  clear hA hx hy hn
  go_enter Tryz.func73, Tryz.ntmps73
  go_wp2
  go_loopw [12] (fun q wr => ∃ k : Nat, k ≤ h ∧ q = .int .i64 k ∧ ArrAt .u8 5 wr g (A ++ (mixTo x y k ++ y) ++ Z) ∧ Kept [g] w wr) (fun q _ => h - (intOf q).toNat)
  case atStart => exact ⟨0, Nat.zero_le _, rfl, by rw [mix_zero]; exact harr, Kept.refl _ _⟩
  case round =>
    obtain ⟨k, hk, rfl, hr, hkept⟩ := hrel
    have HM := hid (mix_length HXY.out k)
    by_cases hlt : k < h
    · have hlt' : k < n - h := by have := HN.out; omega
      have hltn : k < n := by omega
      have cx : wr.cell? ⟨g, o + k, none⟩ = some (.int .u8 (x.getD k 0)) := by
        rw [hr.cell (by simp [HM.out, HA.out, HX.out]; omega), row_at HA.out (by rw [List.length_append, HM.out, HX.out]; omega)]
        rw [← mix_at HXY.out (k := k) (by rw [HX.out]; exact hlt)]
        unfold List.getD
        rw [List.getElem?_append_left (by rw [HM.out, HX.out]; exact hlt)]
      have cy : wr.cell? ⟨g, o + h + k, none⟩ = some (.int .u8 (y.getD k 0)) := by
        rw [Nat.add_assoc, hr.cell (by simp [HM.out, HA.out, HX.out, HY.out]; omega), row_at HA.out (by rw [List.length_append, HM.out, HX.out, HY.out]; omega)]
        unfold List.getD
        rw [List.getElem?_append_right (by rw [HM.out, HX.out]; omega), HM.out, HX.out, Nat.add_sub_cancel_left]
      have hf := hr.free (o + k)
      have hbx := bx.at k
      have hby := bY.at k
      have hset := hr.set (o + k) ((x.getD k 0 + y.getD k 0) % 2)
      rw [row_set HA.out (by rw [List.length_append, HM.out, HX.out]; omega), List.set_append_left _ _ (by rw [HM.out, HX.out]; exact hlt), mix_set HXY.out (by rw [HX.out]; exact hlt)] at hset
      have hkept' := hkept.setCell (p := ⟨g, o + k, none⟩) (by simp) (.int .u8 ((x.getD k 0 + y.getD k 0) % 2))
      obtain ⟨p, ep⟩ : ∃ p, p = x.getD k 0 := ⟨_, rfl⟩
      obtain ⟨q, eq⟩ : ∃ q, q = y.getD k 0 := ⟨_, rfl⟩
      rw [← ep] at cx hbx
      rw [← eq] at cy hby
      rw [← ep, ← eq] at hset hkept'
      have hxr := xor_tab hbx hby
      clear ep eq hr hkept
      go_wp2
      go_roundw
      case rel => exact ⟨k + 1, by omega, by go_num, hset, hkept'⟩
      case measure => simp [intOf]; omega
    · obtain rfl : k = h := by omega
      have hge : ¬ k < n - k := by have := HN.out; omega
      go_wp2
      go_end0
      refine ⟨rfl, ?_, hkept⟩
      rw [← mix_all HXY.out, HX.out]
      exact hr
set_option maxRecDepth 100000 in
set_option maxHeartbeats 1000000 in
theorem turn_in : ∀ (m : Nat) (A x Z : List Int) (g o n c : Nat) (w : World), ArrAt .u8 5 w g (A ++ x ++ Z) → A.length = o → x.length = n → n = 2 ^ m → n ≤ 512 → n ≤ c → AllBits x →
    Calls Tryz.prog 62 #[.slice (some ⟨g, o, none⟩) n c] w fun e w' => e = .returned (.tuple #[]) ∧ ArrAt .u8 5 w' g (A ++ turnM m x ++ Z) ∧ Kept [g] w w'
  | 0, A, x, Z, g, o, n, c, w, harr, hA, hx, hn, hb, hc, bx => by
    obtain rfl : n = 1 := hn
    have HX := hid hx
    clear hx
    go_enter Tryz.func62, Tryz.ntmps62
    go_wp2
    refine bodyPost_ret (results_none rfl _ _ _) rfl ?_
    exact ⟨rfl, harr, Kept.refl _ _⟩
  | m + 1, A, x, Z, g, o, n, c, w, harr, hA, hx, hn, hb, hc, bx => by
    obtain ⟨h, eh⟩ : ∃ h, h = 2 ^ m := ⟨_, rfl⟩
    have h0 : 1 ≤ h := by rw [eh]; exact Nat.one_le_two_pow
    have hnh : n = h + h := by rw [hn, eh, Nat.pow_succ]; omega
    have l1 : (x.take h).length = h := by rw [List.length_take]; omega
    have l2 : (x.drop h).length = h := by rw [List.length_drop]; omega
    have b1 : AllBits (x.take h) := fun y hy => bx y (List.mem_of_mem_take hy)
    have b2 : AllBits (x.drop h) := fun y hy => bx y (List.mem_of_mem_drop hy)
    have hT : turnM (m + 1) x = addL (turnM m (x.take h)) (turnM m (x.drop h)) ++ turnM m (x.drop h) := by rw [turnM, eh]
    have t1 := turn_length m (x.take h) (l1.trans eh)
    have t2 := turn_length m (x.drop h) (l2.trans eh)
    rw [← eh] at t1 t2
    have c1 := turn_bits m _ b1
    have c2 := turn_bits m _ b2
    have hsp : x = x.take h ++ x.drop h := (List.take_append_drop h x).symm
    rw [hsp] at harr
    rw [hT]
    have ih1 := fun w' ha => turn_in m A (x.take h) (x.drop h ++ Z) g o h c w' ha hA l1 eh (by omega) (by omega) b1
    have ih2 := fun w' ha => turn_in m (A ++ turnM m (x.take h)) (x.drop h) Z g (o + h) h (c - h) w' ha (by rw [List.length_append, hA, t1]) l2 eh (by omega) (by omega) b2
    generalize x.take h = x1 at *
    generalize x.drop h = x2 at *
    generalize turnM m x1 = y1 at *
    generalize turnM m x2 = y2 at *
    have hj := fun w' ha => join_any A y1 y2 Z g o n c h w' ha hA t1 t2 hnh h0 hb hc c1 c2
    have hq : (n : Int).tdiv 2 = (h : Int) := by rw [Int.tdiv_eq_ediv_of_nonneg (by omega)]; omega
    have hle : h ≤ n := by omega
    have hlc : h ≤ c := by omega
    have hne : ¬ c = h := by omega
    have hn1 : ((n : Int) == 1) = false := by simp; omega
    have HNH := hid (show n - h = h by omega)
    clear hn hnh hx eh hsp hT l1 l2 t1 t2 hA
    have e1 : A ++ (x1 ++ x2) ++ Z = A ++ x1 ++ (x2 ++ Z) := by simp
    have e2 : A ++ y1 ++ (x2 ++ Z) = A ++ y1 ++ x2 ++ Z := by simp
    have e3 : A ++ y1 ++ y2 ++ Z = A ++ (y1 ++ y2) ++ Z := by simp
    rw [e1] at harr
    rw [e2] at ih1
    rw [e3] at ih2
    clear e1 e2 e3
    have tok : True := trivial
    go_enter Tryz.func62, Tryz.ntmps62
    go_wp2_with (first
      | (go_at_call 62; have _t := tok; refine (ih1 _ harr).mono ?_; rintro e w1 ⟨rfl, hr1, hk1⟩; clear tok)
      | (go_at_call 62; rw [HNH.out]; refine (ih2 _ hr1).mono ?_; rintro e w2 ⟨rfl, hr2, hk2⟩)
      | (go_at_call 73; refine (hj _ hr2).mono ?_; rintro e w3 ⟨rfl, hr3, hk3⟩))
    go_end0
    exact ⟨rfl, hr3, (hk1.trans hk2).trans hk3⟩
end Go.Proofs.YtplkmkbambbemaeGreatDoor
namespace Go.Proofs.YtplkmkbambbemaeGreatDoor
open Go.ChangeShapes Go.WideShapes Go.ChangeAt Go.RowKit
/-- Two lists of bits, added place by place (as bytes are). -/
def addTo (xs ys : List Int) (k : Nat) : List Int := (List.range k).map fun i => (xs.getD i 0 + ys.getD i 0) % 2
theorem addTo_length (xs ys : List Int) (k : Nat) : (addTo xs ys k).length = k := by simp [addTo]
end Go.Proofs.YtplkmkbambbemaeGreatDoor
