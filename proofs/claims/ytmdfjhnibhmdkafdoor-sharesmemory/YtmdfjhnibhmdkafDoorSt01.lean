import Derived.Test.YtmdfjhnibhmdkafDoorRows
import Derived.WalkKit
import Derived.ProofKit
import Derived.OpenShut
import Derived.ShutString
import Derived.ChangeOld
import Derived.Below
import Derived.WalkLawsBesides
import Derived.WalkSpells
import Derived.BigQuiet
import Derived.Deep.QuietTactic
import Derived.Laws.CopyOwn
import Derived.Laws.AppendOwnNone
import Derived.Laws.BitsAllLaws
import Derived.Laws.BytesArg
import Derived.Laws.BytesString
import Derived.SizedLaws
namespace Go.Proofs.YtmdfjhnibhmdkafDoor
open Go.ChangeShapes Go.WideShapes Go.ChangeAt Go.RowKit
/-- What a reader is told of a slice of integers: where it has elements, it leads to a row of cells that hold them. -/
def Rd (k : IntKind) (w : World) (a : Option Addr) (zs : List Int) : Prop :=
  zs ≠ [] → ∃ b off, a = some ⟨b, off, none⟩ ∧ ∀ j, j < zs.length → w.cell? ⟨b, off + j, none⟩ = some (.int k (zs.getD j 0))
theorem Rd.at {k : IntKind} {w : World} {a : Option Addr} {zs : List Int} (h : Rd k w a zs) {i : Nat} (hi : i < zs.length) :
    ∃ b off, a = some ⟨b, off, none⟩ ∧ ∀ j, j < zs.length → w.cell? ⟨b, off + j, none⟩ = some (.int k (zs.getD j 0)) :=
  h (by intro e; subst e; simp at hi)
theorem Rd.below {k : IntKind} {w w' : World} {a : Option Addr} {zs : List Int} (h : Rd k w a zs) (hb : Below w.heap.size w w') : Rd k w' a zs := by
  intro hne
  obtain ⟨b, off, rfl, hc⟩ := h hne
  exact ⟨b, off, rfl, fun j hj => (hb.cell (World.block_lt_of_cell? w _ (hc j hj))).trans (hc j hj)⟩
theorem Rd.nil (k : IntKind) (w : World) (a : Option Addr) : Rd k w a [] := fun h => absurd rfl h
/-- A row that a call owns can be read. -/
theorem Rd.own {k : IntKind} {w : World} {base : Nat} {e : TypeId} {a : Option Addr} {n c : Nat} {zs : List Int} (h : w.ownsRow base e 1 (.slice a n c) zs.length (zs.map (Value.int k))) : Rd k w a zs := by
  intro hne
  rcases h.2 with ⟨_, h0⟩ | ⟨g, cap, cur, h', _⟩
  · exact absurd (List.eq_nil_of_length_eq_zero h0) hne
  · simp only [Value.slice.injEq] at h'
    obtain ⟨rfl, rfl, rfl⟩ := h'
    refine ⟨g, 0, rfl, fun j hj => ?_⟩
    rw [Nat.zero_add, h.cellAt j (by omega)]
    simp [List.getD, hj]
theorem Rd.take {k : IntKind} {w : World} {b o : Nat} {zs : List Int} (h : ∀ j, j < zs.length → w.cell? ⟨b, o + j, none⟩ = some (.int k (zs.getD j 0))) (n : Nat) : Rd k w (some ⟨b, o, none⟩) (zs.take n) := by
  intro _
  refine ⟨b, o, rfl, fun j hj => ?_⟩
  have hj' : j < zs.length ∧ j < n := by rw [List.length_take] at hj; omega
  rw [h j hj'.1]
  simp [List.getD, hj'.2]
theorem Rd.drop {k : IntKind} {w : World} {b o : Nat} {zs : List Int} (h : ∀ j, j < zs.length → w.cell? ⟨b, o + j, none⟩ = some (.int k (zs.getD j 0))) (n : Nat) : Rd k w (some ⟨b, o + n, none⟩) (zs.drop n) := by
  intro _
  refine ⟨b, o + n, rfl, fun j hj => ?_⟩
  have hj' : n + j < zs.length := by rw [List.length_drop] at hj; omega
  have := h (n + j) hj'
  rw [← Nat.add_assoc] at this
  rw [this]
  simp [List.getD]
theorem hid {p : Prop} (h : p) : Hid p := h
end Go.Proofs.YtmdfjhnibhmdkafDoor
namespace Go.Proofs.YtmdfjhnibhmdkafDoor
open Go.RowKit
/-- Every number a byte. -/
def Bytes (zs : List Int) : Prop := ∀ n ∈ zs, 0 ≤ n ∧ n ≤ 255
/-- Only 0 and 1 up to place k. -/
def Okay (zs : List Int) (k : Nat) : Prop := ∀ j, j < k → zs.getD j 0 ≤ 1
/-- What is wrong with bits: 0, 1 (a byte that is none), 2 (too many). -/
def errOf (zs : List Int) : Int := if zs.all (fun x => decide (x ≤ 1)) then (if 4096 < zs.length then 2 else 0) else 1
theorem Bytes.at {zs : List Int} (h : Bytes zs) (k : Nat) : 0 ≤ zs.getD k 0 ∧ zs.getD k 0 ≤ 255 := by
  by_cases hk : k < zs.length
  · have : zs.getD k 0 = zs[k] := by simp [List.getD, hk]
    rw [this]; exact h _ (List.getElem_mem hk)
  · have : zs.getD k 0 = 0 := by simp [List.getD, Nat.le_of_not_lt hk]
    rw [this]; omega
theorem all_okay {zs : List Int} (h : zs.all (fun x => decide (x ≤ 1)) = true) (k : Nat) : zs.getD k 0 ≤ 1 := by
  rw [List.all_eq_true] at h
  by_cases hk : k < zs.length
  · have := h _ (List.getElem_mem hk)
    simpa [List.getD, hk] using this
  · simp [List.getD, Nat.le_of_not_lt hk]
theorem err_bad {zs : List Int} {k : Nat} (h : ¬ zs.getD k 0 ≤ 1) : errOf zs = 1 := by
  unfold errOf
  rw [if_neg]
  intro e
  exact h (all_okay e k)
theorem Okay.succ {zs : List Int} {k : Nat} (h : Okay zs k) (e : zs.getD k 0 ≤ 1) : Okay zs (k + 1) := fun j hj => by
  by_cases hjk : j = k
  · subst hjk; exact e
  · exact h j (by omega)
theorem ret_int {k : IntKind} {a b : Int} (h : a = b) : Ending.returned (.int k a) = .returned (.int k b) := by rw [h]
end Go.Proofs.YtmdfjhnibhmdkafDoor
namespace Go.Proofs.YtmdfjhnibhmdkafDoor
open Go.ChangeShapes Go.WideShapes Go.ChangeAt Go.RowKit
theorem Tryd.info5 : (Tryd.prog.info? 5).map (fun i => (i.zero, i.size, i.bytes)) = some (some (.int .u8 0), 1, 1) := by kernel_rfl
/-- A list of bytes in memory of one's own. -/
def Own (w : World) (B : Nat) (v : Value) (L : List Int) : Prop := w.ownsRow B 5 1 v L.length (L.map (Value.int .u8))
theorem Own.nil (w : World) (B : Nat) : Own w B (.slice none 0 0) [] := World.ownsRow_nil _ _ _ _
theorem Own.snoc {w : World} {B : Nat} {v : Value} {L : List Int} {x : Int} (h : w.ownsRow B 5 1 v (L.length + 1) (L.map (Value.int .u8) ++ [.int .u8 x])) : Own w B v (L ++ [x]) := by
  unfold Own
  rw [List.length_append, List.map_append]
  exact h
theorem own_blocks {w : World} {B : Nat} {v : Value} {L : List Int} (h : Own w B v L) : ∀ k, v.ownBlock = some k → B ≤ k := fun k hk => (h.lt k hk).1
/-- 'out = append(out, y)', out a list of bytes of one's own. -/
theorem wpList_push {ops : Array Oper} {rest : List Oper} {o : Oper} {a : Act} {Q : Exit → Act → World → Prop} {w0 : World} {v : Value} {L : List Int} (B : Nat) (w00 : World) (y : Int) (hown : Own w0 B v L) (hgd : o.guard = none) (s x : Operand)
    (ho : o.op = .call { callee := .builtin .append, args := #[s, x], argTypes := #[68, 68] }) (hs : a.eval s = v)
    (hx : a.eval x = .slice (some ⟨w0.heap.size, 0, none⟩) 1 1) (hlen : L.length < 70368744177664) (hbel : Below B w00 w0) (hB : B ≤ w0.heap.size)
    (h : ∀ v' w', Own w' B v' (L ++ [y]) → Below B w00 w' → wpList Tryd.prog ops Q rest (a.put o.dst v') w') : wpList Tryd.prog ops Q (o :: rest) a (w0.alloc (.cells #[.int .u8 y] 5)) := by
  obtain ⟨i0, hi, hz0, hz1, hz2⟩ := info_parts Tryd.info5
  refine wpList_append_own _ hgd s x 68 ho B 5 i0 (.int .u8 0) 1 1 Tryd.underlying68 hi hz0 hz1 hz2 rfl (by decide) v _ _ hs (World.ownsRow.alloc hown _) ⟨w0.heap.size, 0, none⟩ 1 1 [.int .u8 y] hx rfl (cell_one_new _ _ _) ?_ ?_ ?_ ?_ ?_
  · intro u hu; simp at hu; subst hu; rfl
  · unfold maxLen; omega
  · omega
  · simp; omega
  · intro v' w' h1 h2 _
    exact h v' w' (Own.snoc h1) ((hbel.alloc hB _).grown h2 (by simp; omega) (own_blocks hown))
theorem Own.cell {w : World} {B g N c : Nat} {L : List Int} (h : Own w B (.slice (some ⟨g, 0, none⟩) N c) L) {i : Nat} (hi : i < L.length) : w.cell? ⟨g, i, none⟩ = some (.int .u8 (L.getD i 0)) := by
  obtain ⟨b, off, e, hc⟩ := (Rd.own (k := .u8) h) (by intro e; subst e; simp at hi)
  simp only [Option.some.injEq, Addr.mk.injEq, and_true] at e
  obtain ⟨rfl, rfl⟩ := e
  have := hc i hi
  rwa [Nat.zero_add] at this
theorem Own.len {w : World} {B g N c : Nat} {L : List Int} (h : Own w B (.slice (some ⟨g, 0, none⟩) N c) L) : L.length = N := by
  rcases h.2 with ⟨h', _⟩ | ⟨g', cap, cur, h', _⟩
  · simp at h'
  · simp only [Value.slice.injEq] at h'
    exact h'.2.1.symm
theorem Own.block {w : World} {B g N c : Nat} {L : List Int} (h : Own w B (.slice (some ⟨g, 0, none⟩) N c) L) : B ≤ g ∧ g < w.heap.size := h.lt g rfl
theorem Own.free {w : World} {B g N c : Nat} {L : List Int} (h : Own w B (.slice (some ⟨g, 0, none⟩) N c) L) (i : Nat) : w.frozen? ⟨g, i, none⟩ = false := by
  have e := h.len
  unfold Own at h
  rw [e] at h
  exact h.frozenAt i
theorem Own.set {w : World} {B g N c : Nat} {L : List Int} (h : Own w B (.slice (some ⟨g, 0, none⟩) N c) L) (i : Nat) (x : Int) : Own (w.setCell ⟨g, i, none⟩ (.int .u8 x)) B (.slice (some ⟨g, 0, none⟩) N c) (L.set i x) := by
  have e := h.len
  unfold Own at h ⊢
  rw [List.length_set, e, List.map_set]
  rw [e] at h
  exact (h.stored i _).1
theorem Own.drew {w : World} {B : Nat} {v : Value} {L : List Int} (h : Own w B v L) : Own w.drew B v L := h
theorem Own.rd {w : World} {B n c : Nat} {a : Option Addr} {L : List Int} (h : Own w B (.slice a n c) L) : Rd .u8 w a L := Rd.own h
theorem Own.shape {w : World} {B : Nat} {v : Value} {L : List Int} (h : Own w B v L) : ∃ a c, v = .slice a L.length c ∧ (L ≠ [] → ∃ g, a = some ⟨g, 0, none⟩) ∧ L.length ≤ c ∧ c ≤ maxLen := by
  rcases h.2 with ⟨h', h0⟩ | ⟨g, cap, cur, h', _, _, h1, h2, _⟩
  · refine ⟨none, 0, by rw [h', h0], fun hne => absurd (List.eq_nil_of_length_eq_zero h0) hne, by omega, by unfold maxLen; omega⟩
  · exact ⟨some ⟨g, 0, none⟩, cap, h', fun _ => ⟨g, rfl⟩, h1, h2⟩
theorem Own.below {w w' : World} {B : Nat} {v : Value} {L : List Int} (h : Own w B v L) (hb : Below w.heap.size w w') : Own w' B v L := by
  refine ⟨h.1, ?_⟩
  rcases h.2 with h' | ⟨g, cap, cur, h1, h2, h3, h4⟩
  · exact .inl h'
  · have hlt : g < w.heap.size := by
      rcases Nat.lt_or_ge g w.heap.size with hl | hl
      · exact hl
      · rw [Array.getElem?_eq_none hl] at h3; cases h3
    exact .inr ⟨g, cap, cur, h1, h2, (hb.block g hlt).trans h3, h4⟩
theorem Own.mono {w : World} {B B' : Nat} {v : Value} {L : List Int} (h : Own w B v L) (hB : B' ≤ B) : Own w B' v L := by
  refine ⟨h.1, ?_⟩
  rcases h.2 with h' | ⟨g, cap, cur, h1, h2, h3⟩
  · exact .inl h'
  · exact .inr ⟨g, cap, cur, h1, by omega, h3⟩
/-- 'string(v)', v a list of bytes that can be read. -/
theorem conv_rd {w : World} {a : Option Addr} {L : List Int} (h : Rd .u8 w a L) (c : Nat) : (convert 68 9 (.slice a L.length c)).run Tryd.prog w = .ok (.string (strOfNums L)) w := by
  cases L with
  | nil =>
    rw [run_convert_bytes_string w 68 9 5 a ([] : List Int).length c Tryd.underlying68 Tryd.underlying5 Tryd.underlying9]
    cases a with
    | none => simp [Conv.bytesToString, strOfNums]; rfl
    | some x => exact (run_bytesToString w x 0 c [] (by simp [loadCells]; rfl)).trans (by simp [strOfNums]; rfl)
  | cons y L =>
    obtain ⟨b, off, rfl, hc⟩ := h (by simp)
    exact run_convert_bytes_arg w 68 5 Tryd.underlying68 Tryd.underlying5 b off _ c _ rfl hc 9 Tryd.underlying9
/-- What a row holds while it is filled from its head on. -/
theorem set_fill (A : List Int) (k m : Nat) (x : Int) (hA : A.length = k) : (A ++ List.replicate (m + 1) 0).set k x = (A ++ [x]) ++ List.replicate m 0 := by
  subst hA
  rw [List.set_append_right _ _ (Nat.le_refl _), Nat.sub_self, List.replicate_succ, List.set_cons_zero, List.append_assoc]
  rfl
end Go.Proofs.YtmdfjhnibhmdkafDoor
namespace Go.Proofs.YtmdfjhnibhmdkafDoor
open Go.ChangeShapes Go.WideShapes Go.ChangeAt Go.RowKit
open Go.ChangeMaps (open_string shut_string)
theorem Tryd.own : ownKnob Tryd.prog.godebug = none := by kernel_rfl
theorem Tryd.laidOut : laidOutB Tryd.prog = true := by kernel_rfl
/-- The datum of a slice with so many places. -/
def Places {H : Type} (d : DataW H) (c : Nat) : Prop := (d = .nil ∧ c = 0) ∨ ∃ elems spare, d = .slice elems spare ∧ elems.length + spare.length = c
/-- A list of numbers that came in, as the walks are told of it. -/
theorem open_nums {H : Type} {enc : TypeId × Value → H} {P : Program} {W : World} {base : Nat} {t e : TypeId} {k : IntKind} {v : Value} {d : DataW H} {p : List MemPlace}
    (ht : P.underlying t = some (.slice e)) (he : P.underlying e = some (.int k)) (hc : P.cellsOf e = 1) (hv : Value.okWide P W .any base t v)
    (h : DataW.Trod enc P W 0 (fun _ => true) true t v d p) :
    ∃ a c zs, v = .slice a zs.length c ∧ Rd k W a zs ∧ (∀ n ∈ zs, (Lit.int k n).wf = true) ∧ zs.length ≤ c ∧ c ≤ maxLen ∧ Places d c := by
  obtain ⟨a, len, cap, rfl⟩ := okWide_slice ht hv
  obtain ⟨fuel, hf⟩ := h
  rcases open_ints ht he hc hf with ⟨hcs, hx⟩ | ⟨x, l, c, zs, hcs, _, hl, hm, hz, hx, hcell, hwz⟩
  · simp [Value.cells] at hcs
    obtain ⟨rfl, rfl, rfl⟩ := hcs
    simp at hx
    exact ⟨none, 0, [], rfl, Rd.nil _ _ _, by simp, by simp, by unfold maxLen; omega, .inl ⟨hx.1, rfl⟩⟩
  · simp [Value.cells] at hcs
    obtain ⟨rfl, rfl, rfl⟩ := hcs
    simp at hz hx
    have hlen : (zs.take len).length = len := by rw [List.length_take]; omega
    refine ⟨some x, cap, zs.take len, by rw [hlen], ?_, fun n hn => hwz n (List.mem_of_mem_take hn), by omega, hm, .inr ⟨_, _, hx.1, ?_⟩⟩
    · intro hne
      have h0 : 0 < len := by
        rcases Nat.eq_zero_or_pos len with h | h
        · subst h; simp at hne
        · exact h
      obtain ⟨b, off, spot⟩ := x
      have hc0 := hcell 0 (by omega)
      have hspot : spot = none := by simpa [Addr.add] using World.cell?_spot hc0
      subst hspot
      refine ⟨b, off, rfl, fun j hj => ?_⟩
      have := hcell j (by omega)
      have e1 : (⟨b, off, none⟩ : Addr).add j = ⟨b, off + j, none⟩ := by unfold Addr.add; split <;> simp_all
      rw [e1] at this
      rw [this]
      have hj' : j < len := by omega
      simp [List.getD, hj']
    · simp [lits]; omega
theorem places_sized {H : Type} {P : Program} {ts : List TypeId} {ds : List (DataW H)} (h : (DataW.weightsEach P ts ds).all (· ≤ reachBytes) = true) {j : Nat} {t e : TypeId} {d : DataW H} {c : Nat}
    (ht : ts[j]? = some t) (hd : ds[j]? = some d) (hu : P.underlying t = some (.slice e)) (hp : Places d c) : c * P.bytesOf e ≤ 140737488351232 := by
  rcases hp with ⟨_, rfl⟩ | ⟨elems, spare, rfl, rfl⟩
  · omega
  · exact sized_slice h ht hd hu
end Go.Proofs.YtmdfjhnibhmdkafDoor
namespace Go.Proofs.YtmdfjhnibhmdkafDoor
def upd (f : Nat → Int) (a : Nat) (x : Int) : Nat → Int := fun b => if b = a then x else f b
theorem upd_at (f : Nat → Int) (a : Nat) (x : Int) : upd f a x a = x := if_pos rfl
theorem upd_ne (f : Nat → Int) {a b : Nat} (x : Int) (h : b ≠ a) : upd f a x b = f b := if_neg h
/-- A Slot under way: who was visited last, whether that visit is open, credits, what waits, whose the blocks are so far. -/
structure SlM where
  last : Nat
  opn : Bool
  cr : Nat → Int
  bw : Nat → Int
  out : List Int
/-- One block for the one who is visited. -/
def SlM.give (fits : Nat → Int) (s : SlM) : SlM := ⟨s.last, s.opn, upd s.cr s.last (s.cr s.last - fits s.last), upd s.bw s.last (max (s.bw s.last - fits s.last) 0), s.out ++ [(s.last : Int)]⟩
/-- Blocks for the one who is visited, as long as that may be. -/
def serveM (fits : Nat → Int) (blocks : Nat) : Nat → SlM → SlM
  | 0, s => s
  | f + 1, s => if 0 < s.bw s.last ∧ fits s.last ≤ s.cr s.last then (if s.out.length = blocks then { s with opn := true } else serveM fits blocks f (s.give fits)) else s
def nextWho (last : Nat) : Nat := if 16 < last + 1 then 1 else last + 1
/-- A visit begins. -/
def SlM.come (s : SlM) : SlM := ⟨if s.opn = true then s.last else nextWho s.last, false, s.cr, s.bw, s.out⟩
def SlM.gain (q : Int) (gains : Bool) (s : SlM) : SlM := if gains = true then { s with cr := upd s.cr s.last (s.cr s.last + q) } else s
def SlM.lose (s : SlM) : SlM := { s with cr := upd s.cr s.last 0 }
def SlM.leave (s : SlM) : SlM := if s.bw s.last = 0 then s.lose else s
def visitM (q : Int) (fits : Nat → Int) (blocks : Nat) (s : SlM) : SlM := if 0 < s.come.bw s.come.last then (serveM fits blocks (blocks + 1) (s.come.gain q (!s.opn))).leave else s.come.lose
def anyB (bw : Nat → Int) : Bool := (List.range 16).any fun a => decide (0 < bw (a + 1))
/-- The least of those who wait. -/
def firstW (bw : Nat → Int) : Nat := (((List.range 16).find? fun a => decide (0 < bw (a + 1))).getD 0) + 1
theorem firstW_spec {bw : Nat → Int} (h : anyB bw = true) : 1 ≤ firstW bw ∧ firstW bw ≤ 16 ∧ 0 < bw (firstW bw) := by
  unfold anyB at h
  unfold firstW
  cases hf : (List.range 16).find? fun a => decide (0 < bw (a + 1)) with
  | none =>
    rw [List.find?_eq_none] at hf
    rw [List.any_eq_true] at h
    obtain ⟨a, ha, hb⟩ := h
    exact absurd hb (hf a ha)
  | some a =>
    have h1 := List.find?_some hf
    have h2 := List.mem_range.1 (List.mem_of_find?_eq_some hf)
    simp only [Option.getD_some]
    exact ⟨by omega, by omega, by simpa using h1⟩
/-- How many visits it is to somebody. -/
def wayTo (last a : Nat) : Nat := if last < a then a - last else a + 16 - last
/-- What falls with each visit. -/
def SlM.mu (blocks : Nat) (s : SlM) : Nat := (blocks - s.out.length) * 400000 + (10000 - s.cr (firstW s.bw)).toNat * 17 + (if s.opn = true then 17 else wayTo s.last (firstW s.bw))
structure SlM.Ok (blocks : Nat) (s : SlM) : Prop where
  last : s.last ≤ 16
  opn : s.opn = true → 1 ≤ s.last
  cr : ∀ a, 0 ≤ s.cr a
  bw : ∀ a, 0 ≤ s.bw a
  out : s.out.length ≤ blocks
structure FitOk (fits bw : Nat → Int) : Prop where
  pos : ∀ a, 0 < bw a → 1 ≤ fits a ∧ fits a ≤ 10000
theorem FitOk.less {fits bw bw' : Nat → Int} (h : FitOk fits bw) (hl : ∀ a, 0 < bw' a → 0 < bw a) : FitOk fits bw' := ⟨fun a ha => h.pos a (hl a ha)⟩
theorem give_ok {fits : Nat → Int} {blocks : Nat} {s : SlM} (h : s.Ok blocks) (hc : fits s.last ≤ s.cr s.last) (ho : s.out.length < blocks) : (s.give fits).Ok blocks := by
  refine ⟨h.last, h.opn, fun a => ?_, fun a => ?_, ?_⟩
  · show 0 ≤ upd s.cr s.last (s.cr s.last - fits s.last) a
    by_cases e : a = s.last
    · rw [e, upd_at]; omega
    · rw [upd_ne _ _ e]; exact h.cr a
  · show 0 ≤ upd s.bw s.last (max (s.bw s.last - fits s.last) 0) a
    by_cases e : a = s.last
    · rw [e, upd_at]; omega
    · rw [upd_ne _ _ e]; exact h.bw a
  · show (s.out ++ [(s.last : Int)]).length ≤ blocks
    simp; omega
/-- What holds of those blocks. -/
theorem serve_spec (fits : Nat → Int) (blocks : Nat) : ∀ (f : Nat) (s : SlM), s.Ok blocks → FitOk fits s.bw → (serveM fits blocks f s).last = s.last ∧ (serveM fits blocks f s).Ok (blocks) ∨ s.last = 0
  | 0, s, h, _ => .inl ⟨rfl, h⟩
  | f + 1, s, h, hf => by
    by_cases h0 : s.last = 0
    · exact .inr h0
    · left
      unfold serveM
      by_cases hc : 0 < s.bw s.last ∧ fits s.last ≤ s.cr s.last
      · rw [if_pos hc]
        by_cases ho : s.out.length = blocks
        · rw [if_pos ho]
          exact ⟨rfl, h.last, fun _ => by show 1 ≤ s.last; omega, h.cr, h.bw, h.out⟩
        · rw [if_neg ho]
          have h2 := h.out
          have hfl : FitOk fits (s.give fits).bw := hf.less fun a ha => by
            have ha' : 0 < upd s.bw s.last (max (s.bw s.last - fits s.last) 0) a := ha
            by_cases e : a = s.last
            · rw [e]; exact hc.1
            · rwa [upd_ne _ _ e] at ha'
          rcases serve_spec fits blocks f (s.give fits) (give_ok h hc.2 (by omega)) hfl with h3 | h3
          · exact h3
          · exact absurd h3 h0
      · rw [if_neg hc]
        exact ⟨rfl, h⟩
theorem serve_len (fits : Nat → Int) (blocks : Nat) : ∀ (f : Nat) (s : SlM), s.out.length ≤ (serveM fits blocks f s).out.length
  | 0, s => Nat.le_refl _
  | f + 1, s => by
    unfold serveM
    split
    · split
      · exact Nat.le_refl _
      · refine Nat.le_trans ?_ (serve_len fits blocks f (s.give fits))
        show s.out.length ≤ (s.out ++ [(s.last : Int)]).length
        simp
    · exact Nat.le_refl _
theorem serve_stop {fits : Nat → Int} {blocks f : Nat} {s : SlM} (h : ¬ (0 < s.bw s.last ∧ fits s.last ≤ s.cr s.last)) : serveM fits blocks f s = s := by
  cases f with
  | zero => rfl
  | succ f => unfold serveM; rw [if_neg h]
theorem serve_full {fits : Nat → Int} {blocks f : Nat} {s : SlM} (h : 0 < s.bw s.last ∧ fits s.last ≤ s.cr s.last) (ho : s.out.length = blocks) : serveM fits blocks (f + 1) s = { s with opn := true } := by
  unfold serveM; rw [if_pos h, if_pos ho]
theorem serve_give {fits : Nat → Int} {blocks f : Nat} {s : SlM} (h : 0 < s.bw s.last ∧ fits s.last ≤ s.cr s.last) (ho : s.out.length ≠ blocks) : serveM fits blocks (f + 1) s = serveM fits blocks f (s.give fits) := by
  rw [serveM, if_pos h, if_neg ho]
theorem serve_more {fits : Nat → Int} {blocks f : Nat} {s : SlM} (h : 0 < s.bw s.last ∧ fits s.last ≤ s.cr s.last) (ho : s.out.length < blocks) : s.out.length + 1 ≤ (serveM fits blocks (f + 1) s).out.length := by
  rw [serve_give h (by omega)]
  refine Nat.le_trans ?_ (serve_len fits blocks f (s.give fits))
  show s.out.length + 1 ≤ (s.out ++ [(s.last : Int)]).length
  simp
theorem nextWho_le {last : Nat} (h : last ≤ 16) : 1 ≤ nextWho last ∧ nextWho last ≤ 16 := by unfold nextWho; split <;> omega
theorem come_last {blocks : Nat} {s : SlM} (h : s.Ok blocks) : 1 ≤ s.come.last ∧ s.come.last ≤ 16 := by
  show 1 ≤ (if s.opn = true then s.last else nextWho s.last) ∧ (if s.opn = true then s.last else nextWho s.last) ≤ 16
  by_cases e : s.opn = true
  · rw [if_pos e]; exact ⟨h.opn e, h.last⟩
  · rw [if_neg e]; exact nextWho_le h.last
theorem come_ok {blocks : Nat} {s : SlM} (h : s.Ok blocks) : s.come.Ok blocks := ⟨(come_last h).2, fun e => (by cases e), h.cr, h.bw, h.out⟩
theorem gain_ok {blocks : Nat} {q : Int} {s : SlM} (hq : 0 ≤ q) (g : Bool) (h : s.Ok blocks) : (s.gain q g).Ok blocks ∧ (s.gain q g).last = s.last ∧ (s.gain q g).bw = s.bw ∧ (s.gain q g).out = s.out ∧ (s.gain q g).opn = s.opn := by
  unfold SlM.gain
  by_cases e : g = true
  · rw [if_pos e]
    refine ⟨⟨h.last, h.opn, fun a => ?_, h.bw, h.out⟩, rfl, rfl, rfl, rfl⟩
    show 0 ≤ upd s.cr s.last (s.cr s.last + q) a
    have := h.cr s.last
    by_cases e : a = s.last
    · rw [e, upd_at]; omega
    · rw [upd_ne _ _ e]; exact h.cr a
  · rw [if_neg e]
    exact ⟨h, rfl, rfl, rfl, rfl⟩
theorem lose_ok {blocks : Nat} {s : SlM} (h : s.Ok blocks) : s.lose.Ok blocks := by
  refine ⟨h.last, h.opn, fun a => ?_, h.bw, h.out⟩
  show 0 ≤ upd s.cr s.last 0 a
  by_cases e : a = s.last
  · rw [e, upd_at]; omega
  · rw [upd_ne _ _ e]; exact h.cr a
theorem leave_ok {blocks : Nat} {s : SlM} (h : s.Ok blocks) : s.leave.Ok blocks := by
  unfold SlM.leave
  split
  · exact lose_ok h
  · exact h
theorem visit_ok {q : Int} {fits : Nat → Int} {blocks : Nat} {s : SlM} (hq : 0 ≤ q) (hf : FitOk fits s.bw) (h : s.Ok blocks) : (visitM q fits blocks s).Ok blocks := by
  unfold visitM
  split
  · obtain ⟨h1, h2, h3, _, _⟩ := gain_ok hq (!s.opn) (come_ok h)
    refine leave_ok ?_
    rcases serve_spec fits blocks (blocks + 1) _ h1 (by rw [h3]; exact hf) with h4 | h4
    · exact h4.2
    · rw [h2] at h4
      have := (come_last h).1
      omega
  · exact lose_ok (come_ok h)
end Go.Proofs.YtmdfjhnibhmdkafDoor
