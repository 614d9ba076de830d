import Derived.Test.YtaggbkhpoaacjacDoorMatchG
import Derived.Test.YtaggbkhpoaacjacDoorMatchH
import Derived.Test.YtaggbkhpoaacjacDoorSameI
import Derived.Test.YtaggbkhpoaacjacDoorSoft
import Derived.Test.YtaggbkhpoaacjacDoorArrs
namespace Go.Proofs.YtaggbkhpoaacjacDoor
open Go.ChangeShapes Go.WideShapes Go.ChangeAt Go.RowKit

/-! WHAT A BUFFER IS TOLD AND SAYS: the law's side asks this much of the program. -/

/-- What comes of what is heard: the sums, as they would be. -/
def nextM (s xs : List Int) (v : Int) : List Int := gathTo s (pickTo s.length v.toNat xs.length) xs xs.length
def tellOk (xs : List Int) (v : Int) : Bool := softOk xs && decide (xs.length ≤ 4096) && verOk v
def addErr (s xs : List Int) (v : Int) : Int := if tellOk xs v then (if softOk (nextM s xs v) then 0 else 2) else 1
def addM (s xs : List Int) (v : Int) : List Int := if tellOk xs v && softOk (nextM s xs v) then nextM s xs v else s

/-- The table of columns lies where it was laid. -/
def colTab : Array Value := #[.int .i64 0, .int .i64 4, .int .i64 2, .int .i64 6, .int .i64 1, .int .i64 5, .int .i64 3, .int .i64 7]
def Col (w : World) : Prop := ∃ T fr, w.heap[1]? = some (.cells colTab T fr)
theorem Col.lt {w : World} (h : Col w) : 1 < w.heap.size := by
  obtain ⟨T, fr, e⟩ := h
  rcases Nat.lt_or_ge 1 w.heap.size with h | h
  · exact h
  · rw [Array.getElem?_eq_none h] at e; cases e
theorem Col.below {w w' : World} {B : Nat} (h : Col w) (hb : Below B w w') (hB : 1 < B) : Col w' := by
  obtain ⟨T, fr, e⟩ := h
  exact ⟨T, fr, (hb.block _ hB).trans e⟩
theorem Col.later {w w' : World} (h : Col w) (hb : Below w.heap.size w w') : Col w' := h.below hb h.lt
theorem Col.kept {w w' : World} {S : List Nat} (h : Col w) (hk : Kept S w w') (hS : 1 ∉ S) : Col w' := by
  have hl := h.lt
  obtain ⟨T, fr, e⟩ := h
  exact ⟨T, fr, (hk.block _ hl hS).trans e⟩

/-- A buffer at p: its blocks S, its sums s. -/
structure BufLaws (Buf : World → Addr → List Nat → List Int → Prop) : Prop where
  lt : ∀ {w p S s}, Buf w p S s → ∀ x ∈ S, x < w.heap.size
  kept : ∀ {w w' p S s T}, Buf w p S s → Kept T w w' → (∀ x ∈ S, x ∉ T) → Buf w' p S s
  new : ∀ (n : Nat) (w : World), 1 ≤ n → n ≤ 4096 → Calls Tryd.prog 21 #[.int .i64 n] w fun e w' => ∃ p S, e = .returned (.tuple #[.pointer (some p), .int .i64 0]) ∧ Buf w' p S (List.replicate n 0) ∧ (∀ x ∈ S, w.heap.size ≤ x) ∧ Below w.heap.size w w'
  newBad : ∀ (n : Int) (w : World), n < 1 ∨ 4096 < n → Calls Tryd.prog 21 #[.int .i64 n] w fun e w' => e = .returned (.tuple #[.pointer none, .int .i64 1]) ∧ w = w'
  add : ∀ {w p S s} (a : Option Addr) (c : Nat) (xs : List Int) (v : Int), Col w → Buf w p S s → 1 ≤ s.length → s.length ≤ 4096 → softOk s = true → Rd .i64 w a xs → xs.length ≤ maxLen → (∀ g o, a = some ⟨g, o, none⟩ → xs ≠ [] → g ∉ S) →
    Calls Tryd.prog 23 #[.pointer (some p), .slice a xs.length c, .int .i64 v] w fun e w' => ∃ S', e = .returned (.int .i64 (addErr s xs v)) ∧ Buf w' p S' (addM s xs v) ∧ (∀ x ∈ S', x ∈ S ∨ w.heap.size ≤ x) ∧ Kept S w w'
  soft : ∀ {w p S s}, Buf w p S s → 1 ≤ s.length → s.length ≤ 4096 → Calls Tryd.prog 24 #[.pointer (some p)] w fun e w' => ∃ u, e = .returned u ∧ OwnI w' w.heap.size u s ∧ Below w.heap.size w w'

theorem nextM_length (s xs : List Int) (v : Int) : (nextM s xs v).length = s.length := gathTo_length _ _ _ _
theorem addM_length (s xs : List Int) (v : Int) : (addM s xs v).length = s.length := by unfold addM; split; exact nextM_length _ _ _; rfl
theorem addM_soft {s : List Int} (xs : List Int) (v : Int) (h : softOk s = true) : softOk (addM s xs v) = true := by
  unfold addM
  split
  · rename_i h1
    simp at h1
    exact h1.2
  · exact h

theorem OwnI.cellI {w : World} {B g N c : Nat} {L : List Int} (h : OwnI w B (.slice (some ⟨g, 0, none⟩) N c) L) {i : Nat} (hi : i < L.length) : w.cell? ⟨g, i, none⟩ = some (.int .i64 (L.getD i 0)) := by
  obtain ⟨b, off, e, hc⟩ := h.rd.at hi
  simp at e
  obtain ⟨rfl, rfl⟩ := e
  simpa using hc i hi
theorem OwnI.drewI {w : World} {B : Nat} {v : Value} {L : List Int} (h : OwnI w B v L) : OwnI w.drew B v L := h
theorem OwnI.free {w : World} {B g N c : Nat} {L : List Int} (h : OwnI w B (.slice (some ⟨g, 0, none⟩) N c) L) (i : Nat) : w.frozen? ⟨g, i, none⟩ = false := by
  have e := h.len
  unfold OwnI at h
  rw [e] at h
  exact h.frozenAt i
theorem OwnI.set {w : World} {B g N c : Nat} {L : List Int} (h : OwnI w B (.slice (some ⟨g, 0, none⟩) N c) L) (i : Nat) (x : Int) : OwnI (w.setCell ⟨g, i, none⟩ (.int .i64 x)) B (.slice (some ⟨g, 0, none⟩) N c) (L.set i x) := by
  have e := h.len
  unfold OwnI at h ⊢
  rw [List.length_set, e, List.map_set]
  rw [e] at h
  exact (h.stored i _).1
theorem OwnI.kept {w w' : World} {B : Nat} {v : Value} {L : List Int} {S : List Nat} (h : OwnI w B v L) (hk : Kept S w w') (hs : ∀ g, v.ownBlock = some g → g ∉ S) : OwnI w' B v L := by
  refine ⟨h.1, ?_⟩
  rcases h.2 with h' | ⟨g, cap, cur, h1, h2, h3, h4⟩
  · exact .inl h'
  · have hlt : g < w.heap.size := by
      rcases Nat.lt_or_ge g w.heap.size with hl | hl
      · exact hl
      · rw [Array.getElem?_eq_none hl] at h3; cases h3
    exact .inr ⟨g, cap, cur, h1, h2, (hk.block g hlt (hs g (by rw [h1]; rfl))).trans h3, h4⟩
theorem PairsAt.cells {k : IntKind} {w : World} {a : Option Addr} {n : Nat} {A : Nat → Option Addr} {C : Nat → Nat} {X : Nat → List Int} {V : Nat → Int} (h : PairsAt k w a n A C X V) {i : Nat} (hi : i < n) :
    ∃ b off, a = some ⟨b, off, none⟩ ∧ w.cell? ⟨b, off + i * 2, none⟩ = some (.slice (A i) (X i).length (C i)) ∧ w.cell? ⟨b, off + i * 2 + 1, none⟩ = some (.int k (V i)) ∧ Rd k w (A i) (X i) ∧ (X i).length ≤ C i ∧ C i ≤ maxLen := by
  obtain ⟨b, off, e, hc⟩ := h (by omega)
  exact ⟨b, off, e, hc i hi⟩

theorem OwnI.shape1 {w : World} {B m : Nat} {v : Value} {L : List Int} (h : OwnI w B v L) (hl : L.length = m) (hm : 1 ≤ m) : ∃ g c, v = .slice (some ⟨g, 0, none⟩) m c ∧ m ≤ c ∧ c ≤ maxLen := by
  rcases h.2 with ⟨_, h0⟩ | ⟨g, cap, cur, h', _, _, h1, h2, _⟩
  · omega
  · exact ⟨g, cap, by rw [h', hl], by omega, h2⟩

theorem sameL (L : List Int) (m : Nat) (a b : Option Addr) (ca cb : Nat) (w : World) (ha : Rd .i64 w a L) (hb : Rd .i64 w b L) (hl : L.length = m) (hm : m ≤ 4096) :
    Calls Tryd.prog 14 #[.slice a m ca, .slice b m cb] w fun e w' => e = .returned (.bool true) ∧ Below w.heap.size w w' := by
  have h1 := same_ints L L a b ca cb w ha hb (by unfold maxLen; omega) (by unfold maxLen; omega)
  rw [hl, decide_eq_true rfl] at h1
  exact h1
theorem Kept.cellO {S : List Nat} {w w' : World} (h : Kept S w w') {p : Addr} {v : Value} (hc : w.cell? p = some v) (hp : p.block ∉ S) : w'.cell? p = some v := by
  have := h.block p.block (World.block_lt_of_cell? w _ hc) hp
  rw [← hc]
  simp only [World.cell?, this]
theorem pickTo_at {n v c j : Nat} (h : j < c) : (pickTo n v c).getD j 0 = pickM n v j := by simp [pickTo, List.getD, h]
/-- No sum leaves the numbers. -/
theorem gath_bd {s xs : List Int} (hs : softOk s = true) (hx : softOk xs = true) (ps : List Nat) {k : Nat} (hk : k ≤ 4096) (j : Nat) : -409700000 ≤ (gathTo s ps xs k).getD j 0 ∧ (gathTo s ps xs k).getD j 0 ≤ 409700000 := by
  by_cases hj : j < s.length
  · rw [gathTo_at s ps xs k hj]
    have h1 := soft_at hs j
    have h2 := comesTo_bd ps xs j (M := 100000) (by omega) (soft_at hx) k
    omega
  · have hl : (gathTo s ps xs k).length ≤ j := by rw [gathTo_length]; omega
    simp only [List.getD, List.getElem?_eq_none hl, Option.getD_none]
    omega
theorem OwnI.shapeR {w : World} {B m : Nat} {v : Value} {L : List Int} (h : OwnI w B v L) (hl : L.length = m) : ∃ a c, v = .slice a m c ∧ Rd .i64 w a L := by
  obtain ⟨a, c, rfl, _, _⟩ := h.shape
  exact ⟨a, c, by rw [hl], h.rd⟩

/-- 'append([]int(nil), x...)' of one or more numbers. -/
theorem wpList_copyL {w : World} {ops : Array Oper} {rest : List Oper} {o : Oper} {a : Act} {Q : Exit → Act → World → Prop} (g n c : Nat) (L : List Int) (hn : L.length = n) (hn0 : 1 ≤ n) (hr : Rd .i64 w (some ⟨g, 0, none⟩) L) (hgd : o.guard = none) (s x : Operand)
    (ho : o.op = .call { callee := .builtin .append, args := #[s, x], argTypes := #[23, 23] }) (hs : a.eval s = .slice none 0 0) (hx : a.eval x = .slice (some ⟨g, 0, none⟩) n c) (hlen : n ≤ 4096)
    (h : ∀ v' w', OwnI w' w.heap.size v' L → Below w.heap.size w w' → wpList Tryd.prog ops Q rest (a.put o.dst v') w') : wpList Tryd.prog ops Q (o :: rest) a w := by
  obtain ⟨i0, hi, hz0, hz1, hz2⟩ := info_parts Tryd.info3
  have hne : L ≠ [] := by rintro rfl; simp at hn; omega
  obtain ⟨g', o', e', hc⟩ := hr hne
  simp at e'
  obtain ⟨rfl, rfl⟩ := e'
  refine wpList_append_own _ hgd s x 23 ho w.heap.size 3 i0 (.int .i64 0) 1 8 Tryd.underlying23 hi hz0 hz1 hz2 rfl (by decide) _ 0 [] hs (World.ownsRow_nil _ _ _ _) ⟨g, 0, none⟩ n c (L.map (Value.int .i64)) hx (by simp [hn]) ?_ ?_ ?_ ?_ (Nat.le_refl _) ?_
  · intro j u hj
    have hjl : j < L.length := by
      rcases Nat.lt_or_ge j L.length with h | h
      · exact h
      · rw [List.getElem?_eq_none (by simpa using h)] at hj; cases hj
    have e1 : (⟨g, 0, none⟩ : Addr).add j = ⟨g, 0 + j, none⟩ := by unfold Addr.add; split <;> simp_all
    rw [e1, hc j hjl]
    rw [List.getElem?_map, List.getElem?_eq_getElem hjl] at hj
    simp at hj
    rw [← hj]
    simp [List.getD, hjl]
  · intro u hu
    obtain ⟨z, _, rfl⟩ := List.mem_map.1 hu
    rfl
  · unfold maxLen; omega
  · omega
  · intro v' w' h1 h2 _
    refine h v' w' ?_ ((Below.refl _ _).grown h2 (Nat.le_refl _) (fun k hk => by cases hk))
    unfold OwnI
    rw [hn]
    simpa using h1
end Go.Proofs.YtaggbkhpoaacjacDoor
