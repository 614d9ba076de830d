import Derived.Test.YtdndeegpbjlibadGreatDoorK02
import Derived.Deep.SlicePairs
import Derived.Test.YtdndeegpbjlibadGreatDoorK25
import Derived.Test.YtdndeegpbjlibadGreatDoorK06
import Derived.Test.YtdndeegpbjlibadGreatDoorK03
namespace Go.Proofs.YtdndeegpbjlibadGreatDoor
open Go.ChangeShapes Go.WideShapes Go.ChangeAt Go.RowKit

/-! A LIST OF PAIRS (numbers, a number) that came in, as the walks are told of it. -/

/-- n pairs from a on: the i-th is the numbers X i (at A i, with C i places) and the number V i. -/
def PairsAt (k : IntKind) (w : World) (a : Option Addr) (n : Nat) (A : Nat → Option Addr) (C : Nat → Nat) (X : Nat → List Int) (V : Nat → Int) : Prop :=
  0 < n → ∃ b off, a = some ⟨b, off, none⟩ ∧ ∀ i, i < n → w.cell? ⟨b, off + i * 2, none⟩ = some (.slice (A i) (X i).length (C i)) ∧ w.cell? ⟨b, off + i * 2 + 1, none⟩ = some (.int k (V i)) ∧ Rd k w (A i) (X i) ∧ (X i).length ≤ C i ∧ C i ≤ maxLen
theorem PairsAt.below {k : IntKind} {w w' : World} {a : Option Addr} {n : Nat} {A : Nat → Option Addr} {C : Nat → Nat} {X : Nat → List Int} {V : Nat → Int} (h : PairsAt k w a n A C X V) (hb : Below w.heap.size w w') : PairsAt k w' a n A C X V := by
  intro hn
  obtain ⟨b, off, rfl, hc⟩ := h hn
  refine ⟨b, off, rfl, fun i hi => ?_⟩
  obtain ⟨h1, h2, h3, h4, h5⟩ := hc i hi
  exact ⟨(hb.cell (World.block_lt_of_cell? w _ h1)).trans h1, (hb.cell (World.block_lt_of_cell? w _ h2)).trans h2, h3.below hb, h4, h5⟩

theorem PairsAt.inner {k : IntKind} {w : World} {a : Option Addr} {n : Nat} {A : Nat → Option Addr} {C : Nat → Nat} {X : Nat → List Int} {V : Nat → Int} (h : PairsAt k w a n A C X V) {i : Nat} (hi : i < n) : ∀ g o, A i = some ⟨g, o, none⟩ → (X i) ≠ [] → g < w.heap.size := by
  intro g o e hne
  obtain ⟨b, off, rfl, hc⟩ := h (by omega)
  obtain ⟨_, _, hr, _, _⟩ := hc i hi
  obtain ⟨g', o', e', hc'⟩ := hr hne
  rw [e] at e'
  simp at e'
  obtain ⟨rfl, rfl⟩ := e'
  have h0 : 0 < (X i).length := by
    rcases Nat.eq_zero_or_pos (X i).length with h | h
    · exact absurd (List.eq_nil_of_length_eq_zero h) hne
    · exact h
  exact World.block_lt_of_cell? w _ (hc' 0 h0)

theorem PairsAt.first {k : IntKind} {w : World} {b off : Nat} {n : Nat} {A : Nat → Option Addr} {C : Nat → Nat} {X : Nat → List Int} {V : Nat → Int} (h : PairsAt k w (some ⟨b, off, none⟩) n A C X V) {i : Nat} (hi : i < n) : b < w.heap.size := by
  obtain ⟨b', off', e, hc⟩ := h (by omega)
  simp at e
  obtain ⟨rfl, rfl⟩ := e
  exact World.block_lt_of_cell? w _ (hc i hi).1

/-- The numbers that a cell leads to. -/
theorem nums_cell {H : Type} {enc : TypeId × Value → H} {P : Program} {W : World} {base : Nat} {sp : Nat → Bool} {t e : TypeId} {k : IntKind} {fuel : Nat} {v : Value} {y : DataW H × List MemPlace}
    (ht : P.underlying t = some (.slice e)) (he : P.underlying e = some (.int k)) (hc : P.cellsOf e = 1) (h : DataW.trod enc P W base sp true fuel t [v] = some y) :
    ∃ a c zs, v = .slice a zs.length c ∧ Rd k W a zs ∧ zs.length ≤ c ∧ c ≤ maxLen := by
  rcases open_ints ht he hc h with ⟨hcs, _⟩ | ⟨x, len, cap, zs, hcs, _, hl, hm, hz, _, hcell, _⟩
  · simp at hcs
    subst hcs
    exact ⟨none, 0, [], rfl, Rd.nil _ _ _, by simp, by unfold maxLen; omega⟩
  · simp at hcs
    subst hcs
    have hle : len ≤ zs.length := by rw [hz]; split <;> omega
    have hlen : (zs.take len).length = len := by rw [List.length_take]; omega
    refine ⟨some x, cap, zs.take len, by rw [hlen], ?_, by omega, hm⟩
    intro hne
    have h0 : 0 < len := by
      rcases Nat.eq_zero_or_pos len with h | h
      · subst h; simp at hne
      · exact h
    obtain ⟨b, off, spot⟩ := x
    have hc0 := hcell 0 (by omega)
    have hspot : spot = none := by simpa [Addr.add] using World.cell?_spot hc0
    subst hspot
    refine ⟨b, off, rfl, fun j hj => ?_⟩
    have := hcell j (by omega)
    have e1 : (⟨b, off, none⟩ : Addr).add j = ⟨b, off + j, none⟩ := by unfold Addr.add; split <;> simp_all
    rw [e1] at this
    rw [this]
    have hj' : j < len := by omega
    simp [List.getD, hj']

theorem open_pairs {H : Type} {enc : TypeId × Value → H} {P : Program} {W : World} {base : Nat} {t e q : TypeId} {f0 f1 : Field} {k : IntKind} {v : Value} {d : DataW H} {p : List MemPlace}
    (ht : P.underlying t = some (.slice e)) (he : P.underlying e = some (.struct #[f0, f1])) (ce : P.cellsOf e = 2) (o0 : f0.offset = 0) (o1 : f1.offset = 1) (c0 : P.cellsOf f0.type = 1) (c1 : P.cellsOf f1.type = 1)
    (h0 : P.underlying f0.type = some (.slice q)) (hq : P.underlying q = some (.int k)) (cq : P.cellsOf q = 1) (h1 : P.underlying f1.type = some (.int k)) (hv : Value.okWide P W .any base t v)
    (h : DataW.Trod enc P W 0 (fun _ => true) true t v d p) :
    ∃ a n c A C X V, v = .slice a n c ∧ PairsAt k W a n A C X V ∧ n ≤ c ∧ c ≤ maxLen := by
  obtain ⟨a, len, cap, rfl⟩ := okWide_slice ht hv
  obtain ⟨fuel, hf⟩ := h
  rcases Deep.open_slice_pairs ht he ce o0 o1 c0 c1 hf with ⟨hcs, _⟩ | ⟨x, l, c, m, n, V0, V1, D0, D1, P0, P1, hcs, _, hl, hm, hmm, _, hx⟩
  · simp [Value.cells] at hcs
    obtain ⟨rfl, rfl, rfl⟩ := hcs
    exact ⟨none, 0, 0, fun _ => none, fun _ => 0, fun _ => [], fun _ => 0, rfl, fun h => absurd h (by omega), by omega, by unfold maxLen; omega⟩
  · simp [Value.cells] at hcs
    obtain ⟨rfl, rfl, rfl⟩ := hcs
    have hlm : len ≤ m := by rw [hmm]; split <;> omega
    obtain ⟨f, hfx⟩ := Deep.choose_lt (α := (Option Addr × Nat) × (List Int × Int)) (n := len) (p := fun i y => V0 i = .slice y.1.1 y.2.1.length y.1.2 ∧ V1 i = .int k y.2.2 ∧ Rd k W y.1.1 y.2.1 ∧ y.2.1.length ≤ y.1.2 ∧ y.1.2 ≤ maxLen) (fun i hi => by
      obtain ⟨_, _, g3, g4⟩ := hx i (by omega)
      obtain ⟨a', c', zs, e1, e2, e3, e4⟩ := nums_cell h0 hq cq g3
      obtain ⟨z, e5, _, _⟩ := DataW.trod_int h1 g4
      simp at e5
      exact ⟨((a', c'), (zs, z)), e1, e5, e2, e3, e4⟩)
    refine ⟨some x, len, cap, fun i => (f i).1.1, fun i => (f i).1.2, fun i => (f i).2.1, fun i => (f i).2.2, rfl, ?_, hl, hm⟩
    intro hn
    obtain ⟨b, off, spot⟩ := x
    have hc0 := (hx 0 (by omega)).1
    have hspot : spot = none := by simpa [Addr.add] using World.cell?_spot hc0
    subst hspot
    have ea : ∀ j, (⟨b, off, none⟩ : Addr).add j = ⟨b, off + j, none⟩ := fun j => by unfold Addr.add; split <;> simp_all
    refine ⟨b, off, rfl, fun i hi => ?_⟩
    obtain ⟨g1, g2, _, _⟩ := hx i (by omega)
    obtain ⟨e1, e2, e3, e4, e5⟩ := hfx i hi
    rw [ea] at g1 g2
    rw [e1] at g1
    rw [e2] at g2
    exact ⟨g1, by rw [Nat.add_assoc]; exact g2, e3, e4, e5⟩
end Go.Proofs.YtdndeegpbjlibadGreatDoor

namespace Go.Proofs.YtdndeegpbjlibadGreatDoor
open Go.ChangeShapes Go.WideShapes Go.ChangeAt Go.RowKit

/-! WHAT A BUFFER IS TOLD AND SAYS: the law's side asks this much of the program. -/

/-- What comes of what is heard: the sums, as they would be. -/
def nextM (s xs : List Int) (v : Int) : List Int := gathTo s (pickTo s.length v.toNat xs.length) xs xs.length
def tellOk (xs : List Int) (v : Int) : Bool := softOk xs && decide (xs.length ≤ 4096) && verOk v
def addErr (s xs : List Int) (v : Int) : Int := if tellOk xs v then (if softOk (nextM s xs v) then 0 else 2) else 1
def addM (s xs : List Int) (v : Int) : List Int := if tellOk xs v && softOk (nextM s xs v) then nextM s xs v else s

/-- The table of columns lies where it was laid. -/
def colTab : Array Value := #[.int .i64 0, .int .i64 4, .int .i64 2, .int .i64 6, .int .i64 1, .int .i64 5, .int .i64 3, .int .i64 7]
def Col (w : World) : Prop := ∃ T fr, w.heap[2]? = some (.cells colTab T fr)
theorem Col.lt {w : World} (h : Col w) : 2 < w.heap.size := by
  obtain ⟨T, fr, e⟩ := h
  rcases Nat.lt_or_ge 2 w.heap.size with h | h
  · exact h
  · rw [Array.getElem?_eq_none h] at e; cases e
theorem Col.below {w w' : World} {B : Nat} (h : Col w) (hb : Below B w w') (hB : 2 < B) : Col w' := by
  obtain ⟨T, fr, e⟩ := h
  exact ⟨T, fr, (hb.block _ hB).trans e⟩
theorem Col.later {w w' : World} (h : Col w) (hb : Below w.heap.size w w') : Col w' := h.below hb h.lt
theorem Col.kept {w w' : World} {S : List Nat} (h : Col w) (hk : Kept S w w') (hS : 2 ∉ S) : Col w' := by
  have hl := h.lt
  obtain ⟨T, fr, e⟩ := h
  exact ⟨T, fr, (hk.block _ hl hS).trans e⟩

theorem nextM_length (s xs : List Int) (v : Int) : (nextM s xs v).length = s.length := gathTo_length _ _ _ _
theorem addM_length (s xs : List Int) (v : Int) : (addM s xs v).length = s.length := by unfold addM; split; exact nextM_length _ _ _; rfl
theorem addM_soft {s : List Int} (xs : List Int) (v : Int) (h : softOk s = true) : softOk (addM s xs v) = true := by
  unfold addM
  split
  · rename_i h1
    simp at h1
    exact h1.2
  · exact h

theorem OwnI.cellI {w : World} {B g N c : Nat} {L : List Int} (h : OwnI w B (.slice (some ⟨g, 0, none⟩) N c) L) {i : Nat} (hi : i < L.length) : w.cell? ⟨g, i, none⟩ = some (.int .i64 (L.getD i 0)) := by
  obtain ⟨b, off, e, hc⟩ := h.rd.at hi
  simp at e
  obtain ⟨rfl, rfl⟩ := e
  simpa using hc i hi
theorem OwnI.drewI {w : World} {B : Nat} {v : Value} {L : List Int} (h : OwnI w B v L) : OwnI w.drew B v L := h
theorem OwnI.free {w : World} {B g N c : Nat} {L : List Int} (h : OwnI w B (.slice (some ⟨g, 0, none⟩) N c) L) (i : Nat) : w.frozen? ⟨g, i, none⟩ = false := by
  have e := h.len
  unfold OwnI at h
  rw [e] at h
  exact h.frozenAt i
theorem OwnI.set {w : World} {B g N c : Nat} {L : List Int} (h : OwnI w B (.slice (some ⟨g, 0, none⟩) N c) L) (i : Nat) (x : Int) : OwnI (w.setCell ⟨g, i, none⟩ (.int .i64 x)) B (.slice (some ⟨g, 0, none⟩) N c) (L.set i x) := by
  have e := h.len
  unfold OwnI at h ⊢
  rw [List.length_set, e, List.map_set]
  rw [e] at h
  exact (h.stored i _).1
theorem OwnI.kept {w w' : World} {B : Nat} {v : Value} {L : List Int} {S : List Nat} (h : OwnI w B v L) (hk : Kept S w w') (hs : ∀ g, v.ownBlock = some g → g ∉ S) : OwnI w' B v L := by
  refine ⟨h.1, ?_⟩
  rcases h.2 with h' | ⟨g, cap, cur, h1, h2, h3, h4⟩
  · exact .inl h'
  · have hlt : g < w.heap.size := by
      rcases Nat.lt_or_ge g w.heap.size with hl | hl
      · exact hl
      · rw [Array.getElem?_eq_none hl] at h3; cases h3
    exact .inr ⟨g, cap, cur, h1, h2, (hk.block g hlt (hs g (by rw [h1]; rfl))).trans h3, h4⟩
theorem PairsAt.cells {k : IntKind} {w : World} {a : Option Addr} {n : Nat} {A : Nat → Option Addr} {C : Nat → Nat} {X : Nat → List Int} {V : Nat → Int} (h : PairsAt k w a n A C X V) {i : Nat} (hi : i < n) :
    ∃ b off, a = some ⟨b, off, none⟩ ∧ w.cell? ⟨b, off + i * 2, none⟩ = some (.slice (A i) (X i).length (C i)) ∧ w.cell? ⟨b, off + i * 2 + 1, none⟩ = some (.int k (V i)) ∧ Rd k w (A i) (X i) ∧ (X i).length ≤ C i ∧ C i ≤ maxLen := by
  obtain ⟨b, off, e, hc⟩ := h (by omega)
  exact ⟨b, off, e, hc i hi⟩

theorem OwnI.shape1 {w : World} {B m : Nat} {v : Value} {L : List Int} (h : OwnI w B v L) (hl : L.length = m) (hm : 1 ≤ m) : ∃ g c, v = .slice (some ⟨g, 0, none⟩) m c ∧ m ≤ c ∧ c ≤ maxLen := by
  rcases h.2 with ⟨_, h0⟩ | ⟨g, cap, cur, h', _, _, h1, h2, _⟩
  · omega
  · exact ⟨g, cap, by rw [h', hl], by omega, h2⟩

theorem Kept.cellO {S : List Nat} {w w' : World} (h : Kept S w w') {p : Addr} {v : Value} (hc : w.cell? p = some v) (hp : p.block ∉ S) : w'.cell? p = some v := by
  have := h.block p.block (World.block_lt_of_cell? w _ hc) hp
  rw [← hc]
  simp only [World.cell?, this]
theorem pickTo_at {n v c j : Nat} (h : j < c) : (pickTo n v c).getD j 0 = pickM n v j := by simp [pickTo, List.getD, h]
/-- No sum leaves the numbers. -/
theorem gath_bd {s xs : List Int} (hs : softOk s = true) (hx : softOk xs = true) (ps : List Nat) {k : Nat} (hk : k ≤ 4096) (j : Nat) : -409700000 ≤ (gathTo s ps xs k).getD j 0 ∧ (gathTo s ps xs k).getD j 0 ≤ 409700000 := by
  by_cases hj : j < s.length
  · rw [gathTo_at s ps xs k hj]
    have h1 := soft_at hs j
    have h2 := comesTo_bd ps xs j (M := 100000) (by omega) (soft_at hx) k
    omega
  · have hl : (gathTo s ps xs k).length ≤ j := by rw [gathTo_length]; omega
    simp only [List.getD, List.getElem?_eq_none hl, Option.getD_none]
    omega
theorem OwnI.shapeR {w : World} {B m : Nat} {v : Value} {L : List Int} (h : OwnI w B v L) (hl : L.length = m) : ∃ a c, v = .slice a m c ∧ Rd .i64 w a L := by
  obtain ⟨a, c, rfl, _, _⟩ := h.shape
  exact ⟨a, c, by rw [hl], h.rd⟩

/-- 'append([]int(nil), x...)' of one or more numbers. -/
theorem wpList_copyL {w : World} {ops : Array Oper} {rest : List Oper} {o : Oper} {a : Act} {Q : Exit → Act → World → Prop} (g n c : Nat) (L : List Int) (hn : L.length = n) (hn0 : 1 ≤ n) (hr : Rd .i64 w (some ⟨g, 0, none⟩) L) (hgd : o.guard = none) (s x : Operand)
    (ho : o.op = .call { callee := .builtin .append, args := #[s, x], argTypes := #[23, 23] }) (hs : a.eval s = .slice none 0 0) (hx : a.eval x = .slice (some ⟨g, 0, none⟩) n c) (hlen : n ≤ 4096)
    (h : ∀ v' w', OwnI w' w.heap.size v' L → Below w.heap.size w w' → wpList Tryz.prog ops Q rest (a.put o.dst v') w') : wpList Tryz.prog ops Q (o :: rest) a w := by
  obtain ⟨i0, hi, hz0, hz1, hz2⟩ := info_parts Tryz.info3
  have hne : L ≠ [] := by rintro rfl; simp at hn; omega
  obtain ⟨g', o', e', hc⟩ := hr hne
  simp at e'
  obtain ⟨rfl, rfl⟩ := e'
  refine wpList_append_own _ hgd s x 23 ho w.heap.size 3 i0 (.int .i64 0) 1 8 Tryz.underlying23 hi hz0 hz1 hz2 rfl (by decide) _ 0 [] hs (World.ownsRow_nil _ _ _ _) ⟨g, 0, none⟩ n c (L.map (Value.int .i64)) hx (by simp [hn]) ?_ ?_ ?_ ?_ (Nat.le_refl _) ?_
  · intro j u hj
    have hjl : j < L.length := by
      rcases Nat.lt_or_ge j L.length with h | h
      · exact h
      · rw [List.getElem?_eq_none (by simpa using h)] at hj; cases hj
    have e1 : (⟨g, 0, none⟩ : Addr).add j = ⟨g, 0 + j, none⟩ := by unfold Addr.add; split <;> simp_all
    rw [e1, hc j hjl]
    rw [List.getElem?_map, List.getElem?_eq_getElem hjl] at hj
    simp at hj
    rw [← hj]
    simp [List.getD, hjl]
  · intro u hu
    obtain ⟨z, _, rfl⟩ := List.mem_map.1 hu
    rfl
  · unfold maxLen; omega
  · omega
  · intro v' w' h1 h2 _
    refine h v' w' ?_ ((Below.refl _ _).grown h2 (Nat.le_refl _) (fun k hk => by cases hk))
    unfold OwnI
    rw [hn]
    simpa using h1
end Go.Proofs.YtdndeegpbjlibadGreatDoor

namespace Go.Proofs.YtdndeegpbjlibadGreatDoor
open Go.ChangeShapes Go.WideShapes Go.ChangeAt Go.RowKit

/-! WHAT THE LAW ASKS OF Order, Begin, Pick. -/

def ordOk (n : Int) : Bool := decide (0 ≤ n ∧ n ≤ 4096)
def begOk (n v : Int) : Bool := decide (1 ≤ n ∧ n ≤ 4096) && verOk v
def pickErr (cs : List Int) (v k : Int) : Int := if errOf cs = 0 then (if cs.length = 0 ∨ verOk v = false ∨ k < 0 ∨ 4096 < k then 1 else 0) else errOf cs
def pickedM (cs : List Int) (v k : Nat) : List Int := (List.range k).map fun i => cs.getD (pickM cs.length v i) 0
theorem pickedM_length (cs : List Int) (v k : Nat) : (pickedM cs v k).length = k := by simp [pickedM]
theorem pickedM_at {cs : List Int} {v k i : Nat} (h : i < k) : (pickedM cs v k).getD i 0 = cs.getD (pickM cs.length v i) 0 := by simp [pickedM, List.getD, h]

end Go.Proofs.YtdndeegpbjlibadGreatDoor
