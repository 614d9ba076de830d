import Derived.Test.YtmdfjhnibhmdkafDoorSt01
import Derived.Test.YtmdfjhnibhmdkafDoorSt02
namespace Go.Proofs.YtmdfjhnibhmdkafDoor
open Go.ChangeShapes Go.WideShapes Go.ChangeAt Go.RowKit
/-- Numbers that fill a block. -/
def ArrAt (k : IntKind) (T : TypeId) (w : World) (g : Nat) (L : List Int) : Prop := w.heap[g]? = some (.cells (L.map (Value.int k)).toArray T (0, 0))
theorem ArrAt.cell {k : IntKind} {T : TypeId} {w : World} {g : Nat} {L : List Int} (h : ArrAt k T w g L) {j : Nat} (hj : j < L.length) : w.cell? ⟨g, j, none⟩ = some (.int k (L.getD j 0)) := by
  rw [cell_of_row w g j _ T (0, 0) h]
  simp [List.getD, hj]
theorem ArrAt.free {k : IntKind} {T : TypeId} {w : World} {g : Nat} {L : List Int} (h : ArrAt k T w g L) (j : Nat) : w.frozen? ⟨g, j, none⟩ = false := frozen_of_row w g j _ T h
theorem ArrAt.set {k : IntKind} {T : TypeId} {w : World} {g : Nat} {L : List Int} (h : ArrAt k T w g L) (j : Nat) (x : Int) : ArrAt k T (w.setCell ⟨g, j, none⟩ (.int k x)) g (L.set j x) := by
  unfold ArrAt
  rw [heap_setCell_same w g j _ T _ h, List.map_set]
  simp
theorem ArrAt.other {k : IntKind} {T : TypeId} {w : World} {g : Nat} {L : List Int} (h : ArrAt k T w g L) (p : Addr) (v : Value) (hp : g ≠ p.block) : ArrAt k T (w.setCell p v) g L := by
  unfold ArrAt
  rw [heap_setCell_other w p g v hp]
  exact h
theorem ArrAt.below {k : IntKind} {T : TypeId} {w w' : World} {g B : Nat} {L : List Int} (h : ArrAt k T w g L) (hb : Below B w w') (hg : g < B) : ArrAt k T w' g L := (hb.block g hg).trans h
theorem ArrAt.lt {k : IntKind} {T : TypeId} {w : World} {g : Nat} {L : List Int} (h : ArrAt k T w g L) : g < w.heap.size := by
  rcases Nat.lt_or_ge g w.heap.size with e | e
  · exact e
  · have : w.heap[g]? = none := Array.getElem?_eq_none e
    unfold ArrAt at h
    rw [this] at h; cases h
theorem ArrAt.alloc {k : IntKind} {T : TypeId} {w : World} {g : Nat} {L : List Int} (h : ArrAt k T w g L) (o : Obj) : ArrAt k T (w.alloc o) g L := (Below.heap_alloc w o g h.lt).trans h
theorem ArrAt.rd {k : IntKind} {T : TypeId} {w : World} {g : Nat} {A x Z : List Int} (h : ArrAt k T w g (A ++ x ++ Z)) {o : Nat} (ho : o = A.length) : Rd k w (some ⟨g, o, none⟩) x := by
  subst ho
  intro _
  refine ⟨g, A.length, rfl, fun j hj => ?_⟩
  rw [h.cell (by simp; omega)]
  have e : (A ++ x ++ Z).getD (A.length + j) 0 = x.getD j 0 := by
    unfold List.getD
    rw [List.append_assoc, List.getElem?_append_right (by omega), Nat.add_sub_cancel_left, List.getElem?_append_left hj]
  rw [e]
theorem arr_new (k : IntKind) (T : TypeId) (w : World) (L : List Int) : ArrAt k T (w.alloc (.cells (L.map (Value.int k)).toArray T)) w.heap.size L := heap_alloc_new w _
theorem Own.arr {w : World} {B g N : Nat} {L : List Int} (h : Own w B (.slice (some ⟨g, 0, none⟩) N N) L) : ArrAt .u8 5 w g L ∧ B ≤ g ∧ N ≤ maxLen := by
  have hl := h.len
  rcases h.2 with ⟨h', _⟩ | ⟨g', cap, cur, h', hB, hg, _, hm, hcs, ht⟩
  · simp at h'
  · simp only [Value.slice.injEq, Option.some.injEq, Addr.mk.injEq, and_true] at h'
    obtain ⟨rfl, _, rfl⟩ := h'
    refine ⟨?_, hB, hm⟩
    unfold ArrAt
    rw [hg, ← ht, List.take_of_length_le (by simp; omega)]
/-- But for the blocks of S the world is as it was. -/
structure Kept (S : List Nat) (w w' : World) : Prop where
  os : w'.os = w.os
  tape : w'.tape = w.tape
  output : w'.output = w.output
  size : w.heap.size ≤ w'.heap.size
  block : ∀ k, k < w.heap.size → k ∉ S → w'.heap[k]? = w.heap[k]?
theorem Kept.refl (S : List Nat) (w : World) : Kept S w w := ⟨rfl, rfl, rfl, Nat.le_refl _, fun _ _ _ => rfl⟩
theorem Kept.trans {S : List Nat} {a b c : World} (h : Kept S a b) (k : Kept S b c) : Kept S a c :=
  ⟨k.os.trans h.os, k.tape.trans h.tape, k.output.trans h.output, Nat.le_trans h.size k.size, fun i hi hn => (k.block i (Nat.lt_of_lt_of_le hi h.size) hn).trans (h.block i hi hn)⟩
theorem Kept.wider {S S' : List Nat} {a b : World} (h : Kept S a b) (hs : ∀ x ∈ S, x ∈ S') : Kept S' a b := ⟨h.os, h.tape, h.output, h.size, fun i hi hn => h.block i hi (fun e => hn (hs i e))⟩
theorem Kept.drew {S : List Nat} {a w : World} (h : Kept S a w) : Kept S a w.drew := ⟨h.os, h.tape, h.output, h.size, h.block⟩
theorem Kept.drewN {S : List Nat} {a w : World} (h : Kept S a w) (n : Nat) : Kept S a (w.drewN n) := ⟨h.os, h.tape, h.output, h.size, h.block⟩
theorem Kept.setCell {S : List Nat} {a w : World} (h : Kept S a w) {p : Addr} (hp : p.block ∈ S) (u : Value) : Kept S a (w.setCell p u) :=
  h.trans ⟨rfl, rfl, rfl, by simp [World.setCell], fun k _ hk => Below.heap_setCell _ _ _ _ (fun e => hk (e ▸ hp))⟩
theorem Kept.alloc {S : List Nat} {a w : World} (h : Kept S a w) (o : Obj) : Kept S a (w.alloc o) := h.trans ⟨rfl, rfl, rfl, by simp, fun k hk _ => Below.heap_alloc _ _ _ hk⟩
theorem Kept.of_below {S : List Nat} {a b : World} (h : Below a.heap.size a b) : Kept S a b := ⟨h.os, h.tape, h.output, h.size, fun k hk _ => h.block k hk⟩
theorem Kept.below {S : List Nat} {a b : World} (h : Kept S a b) {B : Nat} (hB : B ≤ a.heap.size) (hs : ∀ x ∈ S, B ≤ x) : Below B a b := ⟨h.os, h.tape, h.output, h.size, fun k hk => h.block k (by omega) (fun e => by have := hs k e; omega)⟩
theorem Kept.rd {S : List Nat} {a b : World} (h : Kept S a b) {k : IntKind} {ad : Option Addr} {zs : List Int} (hr : Rd k a ad zs) (hs : ∀ g o, ad = some ⟨g, o, none⟩ → g ∉ S) : Rd k b ad zs := by
  intro hne
  obtain ⟨g, o, rfl, hc⟩ := hr hne
  refine ⟨g, o, rfl, fun j hj => ?_⟩
  have hlt := World.block_lt_of_cell? a _ (hc j hj)
  rw [← hc j hj]
  have := h.block g hlt (hs g o rfl)
  simp only [World.cell?, this]
theorem ArrAt.kept {k : IntKind} {T : TypeId} {S : List Nat} {w w' : World} {g : Nat} {L : List Int} (h : ArrAt k T w g L) (hk : Kept S w w') (hg : g ∉ S) : ArrAt k T w' g L := (hk.block g h.lt hg).trans h
end Go.Proofs.YtmdfjhnibhmdkafDoor
namespace Go.Proofs.YtmdfjhnibhmdkafDoor
open Go.ChangeShapes Go.WideShapes Go.ChangeAt Go.RowKit
structure UsM where
  who : Int
  byt : Int
  fit : Int
def UsM.zero : UsM := ⟨0, 0, 0⟩
/-- Users that can be read. -/
def Usr (w : World) (a : Option Addr) (l : List UsM) : Prop := l ≠ [] → ∃ b o, a = some ⟨b, o, none⟩ ∧ ∀ i, i < l.length → w.cell? ⟨b, o + i * 3, none⟩ = some (.int .i64 (l.getD i .zero).who) ∧ w.cell? ⟨b, o + i * 3 + 1, none⟩ = some (.int .i64 (l.getD i .zero).byt) ∧ w.cell? ⟨b, o + i * 3 + 2, none⟩ = some (.int .i64 (l.getD i .zero).fit)
theorem Usr.at {w : World} {a : Option Addr} {l : List UsM} (h : Usr w a l) {i : Nat} (hi : i < l.length) : ∃ b o, a = some ⟨b, o, none⟩ ∧ ∀ i, i < l.length → w.cell? ⟨b, o + i * 3, none⟩ = some (.int .i64 (l.getD i .zero).who) ∧ w.cell? ⟨b, o + i * 3 + 1, none⟩ = some (.int .i64 (l.getD i .zero).byt) ∧ w.cell? ⟨b, o + i * 3 + 2, none⟩ = some (.int .i64 (l.getD i .zero).fit) := h (by rintro rfl; simp at hi)
theorem cellT {w w' : World} (hb : Below w.heap.size w w') {a : Addr} {v : Value} (h : w.cell? a = some v) : w'.cell? a = some v := (hb.cell (World.block_lt_of_cell? w _ h)).trans h
theorem Usr.below {w w' : World} {a : Option Addr} {l : List UsM} (h : Usr w a l) (hb : Below w.heap.size w w') : Usr w' a l := by
  intro hne
  obtain ⟨b, o, rfl, hc⟩ := h hne
  exact ⟨b, o, rfl, fun i hi => ⟨cellT hb (hc i hi).1, cellT hb (hc i hi).2.1, cellT hb (hc i hi).2.2⟩⟩
/-- A user that may be, behind another. -/
def UsM.ok (before : Int) (u : UsM) : Bool := decide ((1 ≤ u.who ∧ u.who ≤ 16 ∧ before < u.who) ∧ (0 ≤ u.byt ∧ u.byt ≤ 1000000) ∧ (1 ≤ u.fit ∧ u.fit ≤ 10000))
def befU (l : List UsM) (i : Nat) : Int := if i = 0 then 0 else (l.getD (i - 1) .zero).who
def okUTo (l : List UsM) (k : Nat) : Prop := ∀ i, i < k → (l.getD i .zero).ok (befU l i) = true
def OkU (l : List UsM) : Prop := okUTo l l.length
theorem OkU.at {l : List UsM} (h : OkU l) {i : Nat} (hi : i < l.length) : (1 ≤ (l.getD i .zero).who ∧ (l.getD i .zero).who ≤ 16) ∧ (0 ≤ (l.getD i .zero).byt ∧ (l.getD i .zero).byt ≤ 1000000) ∧ (1 ≤ (l.getD i .zero).fit ∧ (l.getD i .zero).fit ≤ 10000) := by
  have := of_decide_eq_true (h i hi)
  exact ⟨⟨this.1.1, this.1.2.1⟩, this.2.1, this.2.2⟩
theorem OkU.rise {l : List UsM} (h : OkU l) : ∀ (d i : Nat), i + d + 1 < l.length → (l.getD i .zero).who < (l.getD (i + d + 1) .zero).who
  | 0, i, hi => by
    have := of_decide_eq_true (h (i + 1) hi)
    have h2 := this.1.2.2
    unfold befU at h2
    rw [if_neg (by omega), Nat.add_sub_cancel] at h2
    exact h2
  | d + 1, i, hi => by
    have ih := OkU.rise h d i (by omega)
    have := of_decide_eq_true (h (i + d + 1 + 1) (by omega))
    have h2 := this.1.2.2
    unfold befU at h2
    rw [if_neg (by omega), Nat.add_sub_cancel] at h2
    have e : i + (d + 1) + 1 = i + d + 1 + 1 := by omega
    rw [e]
    omega
theorem OkU.inj {l : List UsM} (h : OkU l) {i j : Nat} (hi : i < l.length) (hj : j < l.length) (e : (l.getD i .zero).who = (l.getD j .zero).who) : i = j := by
  rcases Nat.lt_trichotomy i j with hl | hl | hl
  · have := h.rise (j - i - 1) i (by omega)
    rw [show i + (j - i - 1) + 1 = j by omega] at this
    omega
  · exact hl
  · have := h.rise (i - j - 1) j (by omega)
    rw [show j + (i - j - 1) + 1 = i by omega] at this
    omega
/-- Users by their numbers. -/
def byF (f : UsM → Int) (l : List UsM) (a : Nat) : Int := match l.find? fun u => u.who == (a : Int) with
  | some u => f u
  | none => 0
theorem byF_at {f : UsM → Int} {l : List UsM} (h : OkU l) {i : Nat} (hi : i < l.length) : byF f l (l.getD i .zero).who.toNat = f (l.getD i .zero) := by
  have hb := (h.at hi).1
  have e0 : ((l.getD i .zero).who.toNat : Int) = (l.getD i .zero).who := by omega
  unfold byF
  rw [e0]
  have hsome : ∃ u, l.find? (fun u => u.who == (l.getD i .zero).who) = some u := by
    rw [← Option.isSome_iff_exists, List.find?_isSome]
    refine ⟨l[i], List.getElem_mem hi, ?_⟩
    have e : l.getD i .zero = l[i] := by simp [List.getD, hi]
    rw [e]
    exact beq_self_eq_true _
  obtain ⟨u, hu⟩ := hsome
  rw [hu]
  have h1 := List.find?_some hu
  obtain ⟨j, hj, rfl⟩ := List.getElem_of_mem (List.mem_of_find?_eq_some hu)
  have ej : l.getD j .zero = l[j] := by simp [List.getD, hj]
  have h2 : l[j].who = (l.getD i .zero).who := by simpa using h1
  rw [← ej] at h2
  have := h.inj hj hi h2
  subst this
  simp only
  rw [ej]
theorem byF_none {f : UsM → Int} {l : List UsM} {a : Nat} (h : ∀ i, i < l.length → (l.getD i .zero).who ≠ (a : Int)) : byF f l a = 0 := by
  unfold byF
  have : l.find? (fun u => u.who == (a : Int)) = none := by
    rw [List.find?_eq_none]
    intro u hu
    obtain ⟨j, hj, rfl⟩ := List.getElem_of_mem hu
    have e : l.getD j .zero = l[j] := by simp [List.getD, hj]
    have := h j hj
    rw [e] at this
    simpa using this
  rw [this]
/-- The list while a Slot is under way. -/
def curU (l : List UsM) (bw : Nat → Int) : List UsM := l.map fun u => ⟨u.who, bw u.who.toNat, u.fit⟩
/-- Nobody waits who is not in the list. -/
def Only (l : List UsM) (bw : Nat → Int) : Prop := ∀ a : Nat, (∀ i, i < l.length → (l.getD i .zero).who ≠ (a : Int)) → bw a = 0
theorem Only.start (l : List UsM) : Only l (byF UsM.byt l) := fun _ h => byF_none h
theorem Only.any {l : List UsM} (h : OkU l) {bw : Nat → Int} (ho : Only l bw) : (anyB bw = true) ↔ ∃ i, i < l.length ∧ 0 < bw (l.getD i .zero).who.toNat := by
  constructor
  · intro ha
    obtain ⟨h1, h2, h3⟩ := firstW_spec ha
    refine Classical.byContradiction fun hn => ?_
    have := ho (firstW bw) fun i hi e => hn ⟨i, hi, by rw [e]; simpa using h3⟩
    omega
  · rintro ⟨i, hi, hp⟩
    have hb := (h.at hi).1
    unfold anyB
    rw [List.any_eq_true]
    refine ⟨(l.getD i .zero).who.toNat - 1, List.mem_range.2 (by omega), ?_⟩
    rw [show (l.getD i .zero).who.toNat - 1 + 1 = (l.getD i .zero).who.toNat by omega]
    exact decide_eq_true hp
theorem fitU {l : List UsM} (h : OkU l) {bw : Nat → Int} (ho : Only l bw) : FitOk (byF UsM.fit l) bw := ⟨fun a ha => by
  by_cases hex : ∃ i, i < l.length ∧ (l.getD i .zero).who = (a : Int)
  · obtain ⟨i, hi, e⟩ := hex
    have hf := byF_at (f := UsM.fit) h hi
    rw [e, Int.toNat_natCast] at hf
    rw [hf]
    exact (h.at hi).2.2
  · have := ho a fun i hi e => hex ⟨i, hi, e⟩
    omega⟩
end Go.Proofs.YtmdfjhnibhmdkafDoor
namespace Go.Proofs.YtmdfjhnibhmdkafDoor
open Go.ChangeShapes Go.WideShapes Go.ChangeAt Go.RowKit
theorem Tryd.info3 : (Tryd.prog.info? 3).map (fun i => (i.zero, i.size, i.bytes)) = some (some (.int .i64 0), 1, 8) := by kernel_rfl
/-- A list of numbers of one's own. -/
def OwnI (w : World) (B : Nat) (v : Value) (L : List Int) : Prop := w.ownsRow B 3 1 v L.length (L.map (Value.int .i64))
theorem OwnI.nil (w : World) (B : Nat) : OwnI w B (.slice none 0 0) [] := World.ownsRow_nil _ _ _ _
theorem OwnI.snoc {w : World} {B : Nat} {v : Value} {L : List Int} {x : Int} (h : w.ownsRow B 3 1 v (L.length + 1) (L.map (Value.int .i64) ++ [.int .i64 x])) : OwnI w B v (L ++ [x]) := by
  unfold OwnI
  rw [List.length_append, List.map_append]
  exact h
theorem ownI_blocks {w : World} {B : Nat} {v : Value} {L : List Int} (h : OwnI w B v L) : ∀ k, v.ownBlock = some k → B ≤ k := fun k hk => (h.lt k hk).1
theorem wpList_pushL {ops : Array Oper} {rest : List Oper} {o : Oper} {a : Act} {Q : Exit → Act → World → Prop} {w0 : World} {v : Value} {L : List Int} (B : Nat) (w00 : World) (y : Int) (hown : OwnI w0 B v L) (hgd : o.guard = none) (s x : Operand)
    (ho : o.op = .call { callee := .builtin .append, args := #[s, x], argTypes := #[23, 23] }) (hs : a.eval s = v)
    (hx : a.eval x = .slice (some ⟨w0.heap.size, 0, none⟩) 1 1) (hlen : L.length < 17592186044416) (hbel : Below B w00 w0) (hB : B ≤ w0.heap.size)
    (h : ∀ v' w', OwnI w' B v' (L ++ [y]) → Below B w00 w' → wpList Tryd.prog ops Q rest (a.put o.dst v') w') : wpList Tryd.prog ops Q (o :: rest) a (w0.alloc (.cells #[.int .i64 y] 3)) := by
  obtain ⟨i0, hi, hz0, hz1, hz2⟩ := info_parts Tryd.info3
  refine wpList_append_own _ hgd s x 23 ho B 3 i0 (.int .i64 0) 1 8 Tryd.underlying23 hi hz0 hz1 hz2 rfl (by decide) v _ _ hs (World.ownsRow.alloc hown _) ⟨w0.heap.size, 0, none⟩ 1 1 [.int .i64 y] hx rfl (cell_one_new _ _ _) ?_ ?_ ?_ ?_ ?_
  · intro u hu; simp at hu; subst hu; rfl
  · unfold maxLen; omega
  · omega
  · simp; omega
  · intro v' w' h1 h2 _
    exact h v' w' (OwnI.snoc h1) ((hbel.alloc hB _).grown h2 (by simp; omega) (ownI_blocks hown))
theorem wpList_pushI {ops : Array Oper} {rest : List Oper} {o : Oper} {a : Act} {Q : Exit → Act → World → Prop} {w0 : World} {v : Value} {L : List Int} (B : Nat) (w00 : World) (y : Int) (hown : OwnI w0 B v L) (hgd : o.guard = none) (s x : Operand)
    (ho : o.op = .call { callee := .builtin .append, args := #[s, x], argTypes := #[23, 23] }) (hs : a.eval s = v)
    (hx : a.eval x = .slice (some ⟨w0.heap.size, 0, none⟩) 1 1) (hlen : L.length < 8796093022208) (hbel : Below B w00 w0) (hB : B ≤ w0.heap.size)
    (h : ∀ v' w', OwnI w' B v' (L ++ [y]) → Below B w00 w' → wpList Tryd.prog ops Q rest (a.put o.dst v') w') : wpList Tryd.prog ops Q (o :: rest) a (w0.alloc (.cells #[.int .i64 y] 3)) :=
  wpList_pushL B w00 y hown hgd s x ho hs hx (Nat.lt_trans hlen (by decide)) hbel hB h
theorem OwnI.rd {w : World} {B n c : Nat} {a : Option Addr} {L : List Int} (h : OwnI w B (.slice a n c) L) : Rd .i64 w a L := Rd.own h
theorem OwnI.shape {w : World} {B : Nat} {v : Value} {L : List Int} (h : OwnI w B v L) : ∃ a c, v = .slice a L.length c ∧ L.length ≤ c ∧ c ≤ maxLen := by
  rcases h.2 with ⟨rfl, h0⟩ | ⟨g, cap, cur, rfl, _, _, h1, h2, _⟩
  · exact ⟨none, 0, by rw [h0], by omega, by unfold maxLen; omega⟩
  · exact ⟨_, cap, rfl, h1, h2⟩
/-- 'make([]int, N)'. -/
theorem wpList_makeInts {w : World} {ops : Array Oper} {rest : List Oper} {o : Oper} {a : Act} {Q : Exit → Act → World → Prop} (B : Nat) (w00 : World) (N : Nat) (hgd : o.guard = none) (l c : Operand)
    (ho : o.op = Op.makeSlice 23 l c) (x y : Int) (hl : a.eval l = .int .i64 x) (hc : a.eval c = .int .i64 y) (hx : x = (N : Int)) (hy : y = (N : Int)) (hN : N ≤ 8796093022208) (hbel : Below B w00 w) (hB : B ≤ w.heap.size)
    (h : ∀ w', OwnI w' B (.slice (some ⟨w.heap.size, 0, none⟩) N N) (List.replicate N 0) → Below B w00 w' → w.heap.size < w'.heap.size → Below w.heap.size w w' → wpList Tryd.prog ops Q rest (a.put o.dst (.slice (some ⟨w.heap.size, 0, none⟩) N N)) w') :
    wpList Tryd.prog ops Q (o :: rest) a w := by
  obtain ⟨i0, hi, hz0, hz1, hz2⟩ := info_parts Tryd.info3
  refine wpList_make_full w hgd l c 23 ho B 3 i0 (.int .i64 0) 1 Tryd.underlying23 hi hz0 hz1 .i64 .i64 x y N hl hc hx hy (by rw [hz2]; omega) (by unfold maxLen; omega) hB fun w' h1 h2 => ?_
  have e : (madeCells (Value.cells (.int .i64 0)) (N * 1)).toList = List.replicate N (.int .i64 0) := by
    rw [Nat.mul_one]; exact toList_madeCells_one _ _
  rw [e] at h1
  have hlt := (h1.lt w.heap.size rfl).2
  refine h w' ?_ (hbel.grown h2 hB (by intro k hk; cases hk)) hlt ((Below.refl _ _).grown h2 (Nat.le_refl _) (by intro k hk; cases hk))
  unfold OwnI
  rw [List.length_replicate, List.map_replicate]
  exact h1
theorem OwnI.below {w w' : World} {B : Nat} {v : Value} {L : List Int} (h : OwnI w B v L) (hb : Below w.heap.size w w') : OwnI w' B v L := by
  refine ⟨h.1, ?_⟩
  rcases h.2 with h' | ⟨g, cap, cur, h1, h2, h3, h4⟩
  · exact .inl h'
  · have hlt : g < w.heap.size := by
      rcases Nat.lt_or_ge g w.heap.size with hl | hl
      · exact hl
      · rw [Array.getElem?_eq_none hl] at h3; cases h3
    exact .inr ⟨g, cap, cur, h1, h2, (hb.block g hlt).trans h3, h4⟩
theorem OwnI.mono {w : World} {B B' : Nat} {v : Value} {L : List Int} (h : OwnI w B v L) (hB : B' ≤ B) : OwnI w B' v L := by
  refine ⟨h.1, ?_⟩
  rcases h.2 with h' | ⟨g, cap, cur, h1, h2, h3⟩
  · exact .inl h'
  · exact .inr ⟨g, cap, cur, h1, by omega, h3⟩
theorem OwnI.len {w : World} {B g N c : Nat} {L : List Int} (h : OwnI w B (.slice (some ⟨g, 0, none⟩) N c) L) : L.length = N := by
  rcases h.2 with ⟨h', _⟩ | ⟨g', cap, cur, h', _⟩
  · simp at h'
  · simp only [Value.slice.injEq] at h'
    exact h'.2.1.symm
theorem OwnI.block {w : World} {B g N c : Nat} {L : List Int} (h : OwnI w B (.slice (some ⟨g, 0, none⟩) N c) L) : B ≤ g ∧ g < w.heap.size := h.lt g rfl
/-- A row of one's own that has no spare room fills its block. -/
theorem OwnI.arr {w : World} {B g N : Nat} {L : List Int} (h : OwnI w B (.slice (some ⟨g, 0, none⟩) N N) L) : ArrAt .i64 3 w g L ∧ B ≤ g ∧ N ≤ maxLen := by
  have hl := h.len
  rcases h.2 with ⟨h', _⟩ | ⟨g', cap, cur, h', hB, hg, _, hm, hcs, ht⟩
  · simp at h'
  · simp only [Value.slice.injEq, Option.some.injEq, Addr.mk.injEq, and_true] at h'
    obtain ⟨rfl, _, rfl⟩ := h'
    refine ⟨?_, hB, hm⟩
    unfold ArrAt
    rw [hg, ← ht, List.take_of_length_le (by simp; omega)]
theorem ownI_of_arr {w : World} {B g N : Nat} {L : List Int} (hg : ArrAt .i64 3 w g L) (hB : B ≤ g) (hl : L.length = N) (hm : N ≤ maxLen) : OwnI w B (.slice (some ⟨g, 0, none⟩) N N) L := by
  subst hl
  exact ⟨by simp, .inr ⟨g, _, _, rfl, hB, hg, Nat.le_refl _, hm, by simp, List.take_of_length_le (by simp)⟩⟩
end Go.Proofs.YtmdfjhnibhmdkafDoor
