import Derived.Test.YtplkmkbambbemaeGreatDoorM01
import Derived.SizedLaws
import Derived.Deep.SlicePairs
import Derived.Deep.MidRow
import Derived.Laws.StructEq
import Derived.Deep.Cut
namespace Go.Proofs.YtplkmkbambbemaeGreatDoor
open Go.ChangeShapes Go.WideShapes Go.ChangeAt Go.RowKit
theorem Tryz.info3 : (Tryz.prog.info? 3).map (fun i => (i.zero, i.size, i.bytes)) = some (some (.int .i64 0), 1, 8) := by kernel_rfl
/-- A list of numbers of one's own. -/
def OwnI (w : World) (B : Nat) (v : Value) (L : List Int) : Prop := w.ownsRow B 3 1 v L.length (L.map (Value.int .i64))
theorem OwnI.nil (w : World) (B : Nat) : OwnI w B (.slice none 0 0) [] := World.ownsRow_nil _ _ _ _
theorem OwnI.snoc {w : World} {B : Nat} {v : Value} {L : List Int} {x : Int} (h : w.ownsRow B 3 1 v (L.length + 1) (L.map (Value.int .i64) ++ [.int .i64 x])) : OwnI w B v (L ++ [x]) := by
  unfold OwnI
  rw [List.length_append, List.map_append]
  exact h
theorem ownI_blocks {w : World} {B : Nat} {v : Value} {L : List Int} (h : OwnI w B v L) : ∀ k, v.ownBlock = some k → B ≤ k := fun k hk => (h.lt k hk).1
theorem OwnI.rd {w : World} {B n c : Nat} {a : Option Addr} {L : List Int} (h : OwnI w B (.slice a n c) L) : Rd .i64 w a L := Rd.own h
theorem OwnI.shape {w : World} {B : Nat} {v : Value} {L : List Int} (h : OwnI w B v L) : ∃ a c, v = .slice a L.length c ∧ L.length ≤ c ∧ c ≤ maxLen := by
  rcases h.2 with ⟨rfl, h0⟩ | ⟨g, cap, cur, rfl, _, _, h1, h2, _⟩
  · exact ⟨none, 0, by rw [h0], by omega, by unfold maxLen; omega⟩
  · exact ⟨_, cap, rfl, h1, h2⟩
/-- 'make([]int, N)'. -/
theorem wpList_makeInts {w : World} {ops : Array Oper} {rest : List Oper} {o : Oper} {a : Act} {Q : Exit → Act → World → Prop} (B : Nat) (w00 : World) (N : Nat) (hgd : o.guard = none) (l c : Operand)
    (ho : o.op = Op.makeSlice 22 l c) (x y : Int) (hl : a.eval l = .int .i64 x) (hc : a.eval c = .int .i64 y) (hx : x = (N : Int)) (hy : y = (N : Int)) (hN : N ≤ 8796093022208) (hbel : Below B w00 w) (hB : B ≤ w.heap.size)
    (h : ∀ w', OwnI w' B (.slice (some ⟨w.heap.size, 0, none⟩) N N) (List.replicate N 0) → Below B w00 w' → w.heap.size < w'.heap.size → Below w.heap.size w w' → wpList Tryz.prog ops Q rest (a.put o.dst (.slice (some ⟨w.heap.size, 0, none⟩) N N)) w') :
    wpList Tryz.prog ops Q (o :: rest) a w := by
  obtain ⟨i0, hi, hz0, hz1, hz2⟩ := info_parts Tryz.info3
  refine wpList_make_full w hgd l c 22 ho B 3 i0 (.int .i64 0) 1 Tryz.underlying22 hi hz0 hz1 .i64 .i64 x y N hl hc hx hy (by rw [hz2]; omega) (by unfold maxLen; omega) hB fun w' h1 h2 => ?_
  have e : (madeCells (Value.cells (.int .i64 0)) (N * 1)).toList = List.replicate N (.int .i64 0) := by
    rw [Nat.mul_one]; exact toList_madeCells_one _ _
  rw [e] at h1
  have hlt := (h1.lt w.heap.size rfl).2
  refine h w' ?_ (hbel.grown h2 hB (by intro k hk; cases hk)) hlt ((Below.refl _ _).grown h2 (Nat.le_refl _) (by intro k hk; cases hk))
  unfold OwnI
  rw [List.length_replicate, List.map_replicate]
  exact h1
theorem OwnI.below {w w' : World} {B : Nat} {v : Value} {L : List Int} (h : OwnI w B v L) (hb : Below w.heap.size w w') : OwnI w' B v L := by
  refine ⟨h.1, ?_⟩
  rcases h.2 with h' | ⟨g, cap, cur, h1, h2, h3, h4⟩
  · exact .inl h'
  · have hlt : g < w.heap.size := by
      rcases Nat.lt_or_ge g w.heap.size with hl | hl
      · exact hl
      · rw [Array.getElem?_eq_none hl] at h3; cases h3
    exact .inr ⟨g, cap, cur, h1, h2, (hb.block g hlt).trans h3, h4⟩
theorem OwnI.mono {w : World} {B B' : Nat} {v : Value} {L : List Int} (h : OwnI w B v L) (hB : B' ≤ B) : OwnI w B' v L := by
  refine ⟨h.1, ?_⟩
  rcases h.2 with h' | ⟨g, cap, cur, h1, h2, h3⟩
  · exact .inl h'
  · exact .inr ⟨g, cap, cur, h1, by omega, h3⟩
theorem OwnI.len {w : World} {B g N c : Nat} {L : List Int} (h : OwnI w B (.slice (some ⟨g, 0, none⟩) N c) L) : L.length = N := by
  rcases h.2 with ⟨h', _⟩ | ⟨g', cap, cur, h', _⟩
  · simp at h'
  · simp only [Value.slice.injEq] at h'
    exact h'.2.1.symm
theorem OwnI.block {w : World} {B g N c : Nat} {L : List Int} (h : OwnI w B (.slice (some ⟨g, 0, none⟩) N c) L) : B ≤ g ∧ g < w.heap.size := h.lt g rfl
/-- A row of one's own that has no spare room fills its block. -/
theorem OwnI.arr {w : World} {B g N : Nat} {L : List Int} (h : OwnI w B (.slice (some ⟨g, 0, none⟩) N N) L) : ArrAt .i64 3 w g L ∧ B ≤ g ∧ N ≤ maxLen := by
  have hl := h.len
  rcases h.2 with ⟨h', _⟩ | ⟨g', cap, cur, h', hB, hg, _, hm, hcs, ht⟩
  · simp at h'
  · simp only [Value.slice.injEq, Option.some.injEq, Addr.mk.injEq, and_true] at h'
    obtain ⟨rfl, _, rfl⟩ := h'
    refine ⟨?_, hB, hm⟩
    unfold ArrAt
    rw [hg, ← ht, List.take_of_length_le (by simp; omega)]
end Go.Proofs.YtplkmkbambbemaeGreatDoor
namespace Go.Proofs.YtplkmkbambbemaeGreatDoor
open Go.ChangeShapes Go.WideShapes Go.ChangeAt Go.RowKit
/-- Soft numbers: each within the bound. -/
def softOk (l : List Int) : Bool := l.all fun x => decide (-100000 ≤ x ∧ x ≤ 100000)
def SoftTo (l : List Int) (k : Nat) : Prop := ∀ j, j < k → -100000 ≤ l.getD j 0 ∧ l.getD j 0 ≤ 100000
theorem soft_all {l : List Int} (h : SoftTo l l.length) : softOk l = true := by
  unfold softOk
  rw [List.all_eq_true]
  intro x hx
  obtain ⟨k, hk, rfl⟩ := List.getElem_of_mem hx
  have := h k hk
  have e : l.getD k 0 = l[k] := by simp [List.getD, hk]
  rw [e] at this
  simpa using this
theorem soft_at {l : List Int} (h : softOk l = true) (k : Nat) : -100000 ≤ l.getD k 0 ∧ l.getD k 0 ≤ 100000 := by
  unfold softOk at h
  rw [List.all_eq_true] at h
  by_cases hk : k < l.length
  · have := h _ (List.getElem_mem hk)
    have e : l.getD k 0 = l[k] := by simp [List.getD, hk]
    rw [e]
    simpa using this
  · have : l.getD k 0 = 0 := by simp [List.getD, Nat.le_of_not_lt hk]
    rw [this]; omega
theorem soft_bad {l : List Int} {k : Nat} (h : l.getD k 0 < -100000 ∨ 100000 < l.getD k 0) : softOk l = false := by
  cases hs : softOk l with
  | false => rfl
  | true => have := soft_at hs k; omega
end Go.Proofs.YtplkmkbambbemaeGreatDoor
namespace Go.Proofs.YtplkmkbambbemaeGreatDoor
def absI (a : Int) : Int := if a < 0 then -a else a
/-- The sight of the first half: the lesser size, below 0 if just one is below 0. -/
def fI (a b : Int) : Int := if (a < 0 ∧ 0 ≤ b) ∨ (0 ≤ a ∧ b < 0) then -(min (absI a) (absI b)) else min (absI a) (absI b)
/-- The sight of the second half, x being what was found of the first. -/
def gI (x a b : Int) : Int := if x = 1 then b - a else b + a
def fL (a b : List Int) : List Int := List.zipWith fI a b
def gL : List Int → List Int → List Int → List Int
  | x :: xs, a :: l, b :: r => gI x a b :: gL xs l r
  | _, _, _ => []
/-- The bits that are found of 2^m numbers; what is not open is 0. -/
def decP : Nat → List Int → List Bool → List Int
  | 0, l, o => [if o.getD 0 false && decide (l.getD 0 0 < 0) then 1 else 0]
  | m + 1, l, o =>
    let u := decP m (fL (l.take (2 ^ m)) (l.drop (2 ^ m))) (o.take (2 ^ m))
    u ++ decP m (gL (turnM m u) (l.take (2 ^ m)) (l.drop (2 ^ m))) (o.drop (2 ^ m))
/-- Each number has the sign of its bit. -/
def Signs : List Int → List Int → Prop
  | [], [] => True
  | x :: l, c :: cs => (c = 0 → 0 < x) ∧ (c = 1 → x < 0) ∧ Signs l cs
  | _, _ => False
theorem Signs.take : ∀ {l c : List Int}, Signs l c → ∀ k, Signs (l.take k) (c.take k)
  | [], [], _, k => by simp [Signs]
  | [], _ :: _, h, _ => h.elim
  | _ :: _, [], h, _ => h.elim
  | _ :: _, _ :: _, _, 0 => trivial
  | _ :: _, _ :: _, h, k + 1 => ⟨h.1, h.2.1, Signs.take h.2.2 k⟩
theorem Signs.drop : ∀ {l c : List Int}, Signs l c → ∀ k, Signs (l.drop k) (c.drop k)
  | [], [], _, k => by simp [Signs]
  | [], _ :: _, h, _ => h.elim
  | _ :: _, [], h, _ => h.elim
  | _ :: _, _ :: _, h, 0 => h
  | _ :: _, _ :: _, h, k + 1 => Signs.drop h.2.2 k
end Go.Proofs.YtplkmkbambbemaeGreatDoor
namespace Go.Proofs.YtplkmkbambbemaeGreatDoor
theorem decP_length : ∀ (m : Nat) (l : List Int) (o : List Bool), (decP m l o).length = 2 ^ m
  | 0, _, _ => rfl
  | m + 1, l, o => by
    rw [decP, List.length_append, decP_length m, decP_length m, Nat.pow_succ]
    omega
theorem decP_bits : ∀ (m : Nat) (l : List Int) (o : List Bool), AllBits (decP m l o)
  | 0, l, o => fun x hx => by
    simp only [decP, List.mem_singleton] at hx
    subst hx
    split <;> omega
  | m + 1, l, o => fun x hx => by
    rw [decP] at hx
    rcases List.mem_append.1 hx with h | h
    · exact decP_bits m _ _ x h
    · exact decP_bits m _ _ x h
end Go.Proofs.YtplkmkbambbemaeGreatDoor
namespace Go.Proofs.YtplkmkbambbemaeGreatDoor
def wTab : List Int := [1000, 1189, 1414, 1681, 2000, 2378, 2828, 3363, 4000]
/-- What the lowest k bits of a place's number are worth. -/
def worthTo (p : Nat) : Nat → Int
  | 0 => 0
  | k + 1 => worthTo p k + if p / 2 ^ k % 2 = 1 then wTab.getD k 0 else 0
def worthI (p : Nat) : Int := worthTo p 9
/-- Is the first place the better one? -/
def btr (i j : Nat) : Bool := decide (worthI j < worthI i ∨ worthI i = worthI j ∧ j < i)
/-- How many of the first m places are better. -/
def betterTo (i m : Nat) : Nat := ((List.range m).filter (fun j => btr j i)).length
/-- Is a place one of the k best of n? -/
def isPlace (n k i : Nat) : Bool := decide (betterTo i n < k)
def placesM (n k : Nat) : List Nat := (List.range n).filter (isPlace n k)
theorem btr_irrefl (i : Nat) : btr i i = false := by simp [btr]
theorem btr_asymm {i j : Nat} (h : btr i j = true) : btr j i = false := by
  simp only [btr, decide_eq_true_eq, decide_eq_false_iff_not] at *
  omega
theorem btr_trans {i j k : Nat} (h : btr i j = true) (h' : btr j k = true) : btr i k = true := by
  simp only [btr, decide_eq_true_eq] at *
  omega
theorem btr_total {i j : Nat} (h : i ≠ j) : btr i j = true ∨ btr j i = true := by
  simp only [btr, decide_eq_true_eq] at *
  omega
theorem btr_neg {i j k : Nat} (h : btr i j = false) (h' : btr j k = false) : btr i k = false := by
  simp only [btr, decide_eq_false_iff_not] at *
  omega
theorem filter_take {α : Type} (p : α → Bool) : ∀ (l : List α) (k : Nat), (∀ i (h : i < l.length), p l[i] = decide (i < k)) → l.filter p = l.take k
  | [], _, _ => by simp
  | x :: l, 0, h => by
    have h0 : p x = false := h 0 (by simp)
    rw [List.filter_cons, h0, List.take_zero]
    simp only [Bool.false_eq_true, if_false, List.filter_eq_nil_iff]
    intro y hy
    obtain ⟨i, hi, rfl⟩ := List.getElem_of_mem hy
    have := h (i + 1) (by simp; omega)
    simpa using this
  | x :: l, k + 1, h => by
    have h0 : p x = true := (h 0 (by simp)).trans (by simp)
    rw [List.filter_cons, h0, if_pos rfl, List.take_succ_cons, filter_take p l k]
    intro i hi
    have := h (i + 1) (by simp; omega)
    simpa using this
/-- In a list in the order of worth, as many are better than one as stand ahead of it. -/
theorem rank_of : ∀ (l : List Nat) (i : Nat) (h : i < l.length), l.Pairwise (fun a b => btr a b = true) → (l.filter (fun j => btr j l[i])).length = i
  | x :: l, 0, _, hp => by
    rw [List.pairwise_cons] at hp
    rw [List.getElem_cons_zero, List.filter_cons, btr_irrefl]
    simp only [Bool.false_eq_true, if_false, List.length_eq_zero_iff, List.filter_eq_nil_iff]
    intro y hy
    simp [btr_asymm (hp.1 y hy)]
  | x :: l, i + 1, h, hp => by
    rw [List.pairwise_cons] at hp
    have hi : i < l.length := by simpa using h
    have ih := rank_of l i hi hp.2
    rw [List.getElem_cons_succ, List.filter_cons, hp.1 _ (List.getElem_mem hi), if_pos rfl, List.length_cons, ih]
/-- All places in the order of worth. -/
def orderM (n : Nat) : List Nat := (List.range n).mergeSort fun x y => !btr y x
theorem order_perm (n : Nat) : (orderM n).Perm (List.range n) := List.mergeSort_perm _ _
theorem order_sorted (n : Nat) : (orderM n).Pairwise (fun a b => btr a b = true) := by
  have h1 : (orderM n).Pairwise (fun a b => (!btr b a) = true) := List.pairwise_mergeSort (le := fun x y => !btr y x)
    (fun a b c h h' => by simp only [Bool.not_eq_true'] at *; exact btr_neg h' h)
    (fun a b => by
      cases h : btr b a with
      | false => rfl
      | true => simp [btr_asymm h]) _
  have h2 : (orderM n).Nodup := (order_perm n).nodup_iff.2 List.nodup_range
  refine (h1.and h2).imp ?_
  rintro a b ⟨h, hn⟩
  simp only [Bool.not_eq_true'] at h
  rcases btr_total hn with h' | h'
  · exact h'
  · rw [h] at h'; cases h'
theorem order_take (n k : Nat) : (orderM n).take k = (orderM n).filter (isPlace n k) := by
  refine (filter_take _ _ _ fun i hi => ?_).symm
  have hr := rank_of (orderM n) i hi (order_sorted n)
  have hp : ((orderM n).filter (fun j => btr j (orderM n)[i])).length = betterTo (orderM n)[i] n := ((order_perm n).filter _).length_eq
  unfold isPlace
  rw [← hp, hr]
theorem places_sorted (n k : Nat) : (placesM n k).Pairwise (fun a b => a < b) := List.pairwise_lt_range.filter _
def ints (l : List Nat) : List Int := l.map fun x : Nat => (x : Int)
theorem ints_length (l : List Nat) : (ints l).length = l.length := by simp [ints]
theorem ints_at (l : List Nat) (j : Nat) : (ints l).getD j 0 = ((l.getD j 0 : Nat) : Int) := by
  unfold ints List.getD
  rw [List.getElem?_map]
  cases l[j]? <;> rfl
/-- THE BEST k, RISING. -/
theorem order_best (n k : Nat) : (ints ((orderM n).take k)).mergeSort (fun x y => decide (x ≤ y)) = ints (placesM n k) := by
  unfold ints
  refine List.Perm.eq_of_pairwise (le := fun x y => x ≤ y) (fun a b _ _ h h' => by omega) ?_ ?_ ((List.mergeSort_perm _ _).trans ?_)
  · have := List.pairwise_mergeSort (le := fun x y : Int => decide (x ≤ y)) (fun a b c h h' => by simp at *; omega) (fun a b => by simp; omega) (((orderM n).take k).map fun x : Nat => (x : Int))
    simpa using this
  · rw [List.pairwise_map]
    exact (places_sorted n k).imp fun h => by omega
  · rw [order_take]
    exact ((order_perm n).filter _).map _
theorem order_length (n : Nat) : (orderM n).length = n := by rw [(order_perm n).length_eq, List.length_range]
theorem places_length {n k : Nat} (h : k ≤ n) : (placesM n k).length = k := by
  have := congrArg List.length (order_best n k)
  rw [List.length_mergeSort, ints_length, ints_length, List.length_take, order_length] at this
  omega
theorem places_lt {n k x : Nat} (h : x ∈ placesM n k) : x < n := by
  have := (List.mem_filter.1 h).1
  simpa using this
end Go.Proofs.YtplkmkbambbemaeGreatDoor
namespace Go.Proofs.YtplkmkbambbemaeGreatDoor
theorem getD_is (l : List Int) {j : Nat} (h : j < l.length) : l.getD j 0 = l[j] := by simp [List.getD, h]
/-- Bits laid at the places, one by one. -/
def spreadM (n : Nat) (P : List Nat) (b : List Int) : Nat → List Int
  | 0 => List.replicate n 0
  | i + 1 => (spreadM n P b i).set (P.getD i 0) (b.getD i 0)
theorem spread_length (n : Nat) (P : List Nat) (b : List Int) : ∀ i, (spreadM n P b i).length = n
  | 0 => by simp [spreadM]
  | i + 1 => by rw [spreadM, List.length_set, spread_length n P b i]
theorem spread_bits (n : Nat) (P : List Nat) (b : List Int) (hb : ∀ j, 0 ≤ b.getD j 0 ∧ b.getD j 0 ≤ 1) : ∀ i, ∀ x ∈ spreadM n P b i, 0 ≤ x ∧ x ≤ 1
  | 0, x, hx => by
    rw [spreadM] at hx
    have := List.eq_of_mem_replicate hx
    omega
  | i + 1, x, hx => by
    rw [spreadM] at hx
    rcases List.mem_or_eq_of_mem_set hx with h | h
    · exact spread_bits n P b hb i x h
    · subst h; exact hb i
/-- What stands at the places. -/
def readM (P : List Nat) (u : List Int) : List Int := P.map fun p => u.getD p 0
/-- What was found is marked: ones at those of the places from first on that hold 1. -/
def updM (P : List Nat) (fd : List Int) (first : Nat) (u : List Int) : List Int :=
  (List.range fd.length).map fun j => if first ≤ P.getD j 0 ∧ P.getD j 0 < first + u.length ∧ u.getD (P.getD j 0 - first) 0 = 1 then 1 else fd.getD j 0
theorem upd_length (P : List Nat) (fd : List Int) (first : Nat) (u : List Int) : (updM P fd first u).length = fd.length := by simp [updM]
theorem upd_at (P : List Nat) (fd : List Int) (first : Nat) (u : List Int) {j : Nat} (h : j < fd.length) :
    (updM P fd first u).getD j 0 = if first ≤ P.getD j 0 ∧ P.getD j 0 < first + u.length ∧ u.getD (P.getD j 0 - first) 0 = 1 then 1 else fd.getD j 0 := by
  simp [updM, List.getD, h]
theorem upd_append (P : List Nat) (fd : List Int) (first : Nat) (u v : List Int) : updM P (updM P fd first u) (first + u.length) v = updM P fd first (u ++ v) := by
  unfold updM
  rw [List.length_map, List.length_range]
  refine List.map_congr_left fun j hj => ?_
  have hj' : j < fd.length := by simpa using hj
  have e1 := upd_at P fd first u hj'
  unfold updM at e1
  rw [e1, List.length_append]
  generalize P.getD j 0 = p
  by_cases h1 : p < first + u.length
  · by_cases h0 : first ≤ p
    · have e2 : (u ++ v).getD (p - first) 0 = u.getD (p - first) 0 := by simp [List.getD, List.getElem?_append_left (show p - first < u.length by omega)]
      rw [e2, if_neg (by omega)]
      by_cases h2 : u.getD (p - first) 0 = 1
      · rw [if_pos ⟨h0, h1, h2⟩, if_pos ⟨h0, by omega, h2⟩]
      · rw [if_neg (by omega), if_neg (by omega)]
    · rw [if_neg (by omega), if_neg (by omega), if_neg (by omega)]
  · have e2 : (u ++ v).getD (p - first) 0 = v.getD (p - (first + u.length)) 0 := by
      simp only [List.getD]
      rw [List.getElem?_append_right (by omega)]
      congr 2
      omega
    rw [e2]
    by_cases h2 : p < first + u.length + v.length ∧ v.getD (p - (first + u.length)) 0 = 1
    · rw [if_pos ⟨by omega, h2.1, h2.2⟩, if_pos ⟨by omega, by omega, h2.2⟩]
    · rw [if_neg (by omega), if_neg (by omega), if_neg (by omega)]
/-- One place: it is none of P, or what is found there is no 1. -/
theorem upd_none (P : List Nat) (fd : List Int) (first : Nat) (x : Int) (h : x = 0) : updM P fd first [x] = fd := by
  subst h
  refine List.ext_getElem (by simp [updM]) fun j h1 h2 => ?_
  have e1 := upd_at P fd first [0] h2
  have e2 : (updM P fd first [0]).getD j 0 = (updM P fd first [0])[j] := by simp [List.getD, h1]
  have e3 : fd.getD j 0 = fd[j] := by simp [List.getD, h2]
  rw [← e2, e1, if_neg, e3]
  rintro ⟨h1, h2, h3⟩
  have h2' : P.getD j 0 < first + 1 := h2
  have : P.getD j 0 - first = 0 := by omega
  rw [this] at h3
  simp at h3
/-- The place is P's i-th: the i-th is marked. -/
theorem upd_one (P : List Nat) (hP : P.Pairwise (fun x y => x < y)) (fd : List Int) (hl : fd.length = P.length) (i : Nat) (hi : i < P.length) : updM P fd (P.getD i 0) [1] = fd.set i 1 := by
  refine List.ext_getElem (by simp [updM]) fun j h1 h2 => ?_
  have hj : j < fd.length := by simpa using h2
  have e1 := upd_at P fd (P.getD i 0) [1] hj
  have e2 : (updM P fd (P.getD i 0) [1]).getD j 0 = (updM P fd (P.getD i 0) [1])[j] := getD_is _ h1
  have e3 : fd.getD j 0 = fd[j] := by simp [List.getD, hj]
  rw [← e2, e1, List.getElem_set, e3]
  have gi : P.getD i 0 = P[i] := by simp [List.getD, hi]
  have gj : P.getD j 0 = P[j] := by simp [List.getD, show j < P.length by omega]
  by_cases e : i = j
  · subst e
    rw [if_pos rfl, if_pos]
    refine ⟨Nat.le_refl _, by simp, by simp⟩
  · rw [if_neg e, if_neg]
    rintro ⟨a, b, _⟩
    rw [gi, gj] at a b
    simp at b
    rcases Nat.lt_or_gt_of_ne e with h | h
    · have := (List.pairwise_iff_getElem.1 hP) i j hi (by omega) h
      omega
    · have := (List.pairwise_iff_getElem.1 hP) j i (by omega) hi h
      omega
theorem upd_all (P : List Nat) (k : Nat) (hk : P.length = k) (u : List Int) (hu : ∀ j, 0 ≤ u.getD j 0 ∧ u.getD j 0 ≤ 1) (hn : ∀ x ∈ P, x < u.length) : updM P (List.replicate k 0) 0 u = readM P u := by
  refine List.ext_getElem (by simp [updM, readM, hk]) fun j h1 h2 => ?_
  have hj : j < P.length := by simpa [readM] using h2
  have e1 := upd_at P (List.replicate k 0) 0 u (j := j) (by simp; omega)
  have e2 : (updM P (List.replicate k 0) 0 u).getD j 0 = (updM P (List.replicate k 0) 0 u)[j] := by simp [List.getD, h1]
  have e3 : (List.replicate k (0 : Int)).getD j 0 = 0 := by simp [List.getD, show j < k by omega]
  have gj : P.getD j 0 = P[j] := by simp [List.getD, hj]
  rw [← e2, e1, e3, gj]
  simp only [readM, List.getElem_map, Nat.sub_zero]
  have := hu P[j]
  have := hn _ (List.getElem_mem hj)
  by_cases h : u.getD P[j] 0 = 1
  · rw [if_pos ⟨by omega, by omega, h⟩, h]
  · rw [if_neg (by omega)]; omega
end Go.Proofs.YtplkmkbambbemaeGreatDoor
namespace Go.Proofs.YtplkmkbambbemaeGreatDoor
open Go.ChangeShapes Go.WideShapes Go.ChangeAt Go.RowKit
theorem tab9 (k : Nat) (h : k < 9) : 1000 ≤ wTab.getD k 0 ∧ wTab.getD k 0 ≤ 4000 := by
  have : k = 0 ∨ k = 1 ∨ k = 2 ∨ k = 3 ∨ k = 4 ∨ k = 5 ∨ k = 6 ∨ k = 7 ∨ k = 8 := by omega
  rcases this with rfl | rfl | rfl | rfl | rfl | rfl | rfl | rfl | rfl <;> decide
theorem worthTo_bd (p : Nat) : ∀ k, k ≤ 9 → 0 ≤ worthTo p k ∧ worthTo p k ≤ 4000 * k
  | 0, _ => by simp [worthTo]
  | k + 1, h => by
    have ih := worthTo_bd p k (by omega)
    have t := tab9 k (by omega)
    rw [worthTo]
    split <;> omega
end Go.Proofs.YtplkmkbambbemaeGreatDoor
namespace Go.Proofs.YtplkmkbambbemaeGreatDoor
open Go.ChangeShapes Go.WideShapes Go.ChangeAt Go.RowKit
open Go.ChangeMaps (open_string shut_string)
theorem Tryz.own : ownKnob Tryz.prog.godebug = none := by kernel_rfl
theorem Tryz.laidOut : laidOutB Tryz.prog = true := by kernel_rfl
/-- The datum of a slice with so many places. -/
def Places {H : Type} (d : DataW H) (c : Nat) : Prop := (d = .nil ∧ c = 0) ∨ ∃ elems spare, d = .slice elems spare ∧ elems.length + spare.length = c
theorem places_sized {H : Type} {P : Program} {ts : List TypeId} {ds : List (DataW H)} (h : (DataW.weightsEach P ts ds).all (· ≤ reachBytes) = true) {j : Nat} {t e : TypeId} {d : DataW H} {c : Nat}
    (ht : ts[j]? = some t) (hd : ds[j]? = some d) (hu : P.underlying t = some (.slice e)) (hp : Places d c) : c * P.bytesOf e ≤ 140737488351232 := by
  rcases hp with ⟨_, rfl⟩ | ⟨elems, spare, rfl, rfl⟩
  · omega
  · exact sized_slice h ht hd hu
theorem text_sized (a : ByteArray) (h : a.data.toList.length ≤ reachBytes) : a.size ≤ 140737488355328 := by
  have e : a.data.toList.length = a.size := Array.length_toList
  rw [e] at h
  have := reachBytes_lt
  omega
end Go.Proofs.YtplkmkbambbemaeGreatDoor
namespace Go.Proofs.YtplkmkbambbemaeGreatDoor
open Go.ChangeShapes Go.WideShapes Go.ChangeAt Go.RowKit
structure Setg where
  code : Int
  size : Int
  order : Int
  seed : Int
  count : Int
def Setg.val (S : Setg) : Value := .agg #[.int .i64 S.code, .int .i64 S.size, .int .i64 S.order, .int .i64 S.seed, .int .i64 S.count]
def set1 (S : Setg) (bytes : Int) : Bool := decide (0 ≤ bytes ∧ bytes ≤ 40 ∧ (S.code = 0 ∨ S.code = 1) ∧ (S.order = 2 ∨ S.order = 4 ∨ S.order = 6) ∧ 0 ≤ S.seed ∧ S.seed < 2147483648)
def set2 (S : Setg) : Bool := decide (S.order ≤ S.count ∧ S.count ≤ 4096 ∧ S.count % S.order = 0 ∧ (S.code = 0 → S.size = 0) ∧ (S.code = 1 → powI S.size = true))
def setErr (S : Setg) (bytes : Int) : Int := if set1 S bytes && set2 S then (if decide (S.code = 1 ∧ S.size < 8 * bytes + 24) then 2 else 0) else 1
def codedN (S : Setg) (bytes : Int) : Int := if S.code = 0 then 3 * (8 * bytes + 24) + 18 else S.size
theorem setErr_no1 {S : Setg} {bytes : Int} (h : set1 S bytes = false) : setErr S bytes = 1 := by unfold setErr; rw [h]; rfl
theorem setErr_no2 {S : Setg} {bytes : Int} (h : set2 S = false) : setErr S bytes = 1 := by unfold setErr; rw [h, Bool.and_false]; rfl
theorem ret_intL {a b : Int} (h : a = b) : Ending.returned (.int .i64 a) = .returned (.int .i64 b) := by rw [h]
end Go.Proofs.YtplkmkbambbemaeGreatDoor
namespace Go.Proofs.YtplkmkbambbemaeGreatDoor
open Go.ChangeShapes Go.WideShapes Go.ChangeAt Go.RowKit
def cellsQ (ps : List (Int × Int)) : List Value := ps.flatMap fun p => [.int .i64 p.1, .int .i64 p.2]
theorem cellsQ_length (ps : List (Int × Int)) : (cellsQ ps).length = 2 * ps.length := by
  induction ps with
  | nil => rfl
  | cons p ps ih =>
    have e : cellsQ (p :: ps) = .int .i64 p.1 :: .int .i64 p.2 :: cellsQ ps := rfl
    rw [e]; simp [ih]; omega
theorem cellsQ_at (ps : List (Int × Int)) : ∀ i, i < ps.length → (cellsQ ps)[i * 2]? = some (.int .i64 (ps.getD i (0, 0)).1) ∧ (cellsQ ps)[i * 2 + 1]? = some (.int .i64 (ps.getD i (0, 0)).2) := by
  induction ps with
  | nil => intro i hi; simp at hi
  | cons p ps ih =>
    intro i hi
    have e : cellsQ (p :: ps) = .int .i64 p.1 :: .int .i64 p.2 :: cellsQ ps := rfl
    cases i with
    | zero => rw [e]; simp [List.getD]
    | succ i =>
      have := ih i (by simpa using hi)
      rw [e, show (i + 1) * 2 = i * 2 + 1 + 1 by omega, List.getElem?_cons_succ, List.getElem?_cons_succ, show i * 2 + 1 + 1 + 1 = (i * 2 + 1) + 1 + 1 by omega, List.getElem?_cons_succ, List.getElem?_cons_succ]
      simpa [List.getD] using this
theorem cellsQ_set (p : Int × Int) : ∀ (ps : List (Int × Int)) (i : Nat), i < ps.length → cellsQ (ps.set i p) = ((cellsQ ps).set (i * 2) (.int .i64 p.1)).set (i * 2 + 1) (.int .i64 p.2)
  | [], i, hi => by simp at hi
  | q :: ps, 0, _ => rfl
  | q :: ps, i + 1, hi => by
    have ih := cellsQ_set p ps i (by simpa using hi)
    have e : ∀ (r : Int × Int) rs, cellsQ (r :: rs) = .int .i64 r.1 :: .int .i64 r.2 :: cellsQ rs := fun _ _ => rfl
    rw [List.set_cons_succ, e, e, ih, show (i + 1) * 2 = i * 2 + 1 + 1 by omega]
    rfl
theorem cellsQ_zero (n : Nat) : cellsQ (List.replicate n (0, 0)) = List.replicate (n * 2) (.int .i64 0) := by
  induction n with
  | zero => rfl
  | succ n ih =>
    have e : cellsQ ((0, 0) :: List.replicate n (0, 0)) = .int .i64 0 :: .int .i64 0 :: cellsQ (List.replicate n (0, 0)) := rfl
    rw [List.replicate_succ, e, ih, show (n + 1) * 2 = n * 2 + 1 + 1 by omega, List.replicate_succ, List.replicate_succ]
theorem cellsQ_one (ps : List (Int × Int)) : ∀ u ∈ cellsQ ps, u.oneCell' = true := by
  intro u hu
  unfold cellsQ at hu
  rw [List.mem_flatMap] at hu
  obtain ⟨p, _, hp⟩ := hu
  simp at hp
  rcases hp with rfl | rfl <;> rfl
theorem cellsQ_append (ps qs : List (Int × Int)) : cellsQ (ps ++ qs) = cellsQ ps ++ cellsQ qs := by unfold cellsQ; rw [List.flatMap_append]
/-- Such a list of one's own, T its type. -/
def OwnT (T : TypeId) (w : World) (B : Nat) (v : Value) (ps : List (Int × Int)) : Prop := w.ownsRow B T 2 v ps.length (cellsQ ps)
theorem OwnT.nil (T : TypeId) (w : World) (B : Nat) : OwnT T w B (.slice none 0 0) [] := World.ownsRow_nil _ _ _ _
theorem OwnT.below {T : TypeId} {w w' : World} {B : Nat} {v : Value} {ps : List (Int × Int)} (h : OwnT T w B v ps) (hb : Below w.heap.size w w') : OwnT T w' B v ps := by
  refine ⟨h.1, ?_⟩
  rcases h.2 with h' | ⟨g, cap, cur, h1, h2, h3, h4⟩
  · exact .inl h'
  · have hlt : g < w.heap.size := (Array.getElem?_eq_some_iff.1 h3).1
    exact .inr ⟨g, cap, cur, h1, h2, (hb.block g hlt).trans h3, h4⟩
theorem OwnT.mono {T : TypeId} {w : World} {B B' : Nat} {v : Value} {ps : List (Int × Int)} (h : OwnT T w B v ps) (hB : B' ≤ B) : OwnT T w B' v ps := by
  refine ⟨h.1, ?_⟩
  rcases h.2 with h' | ⟨g, cap, cur, h1, h2, h3⟩
  · exact .inl h'
  · exact .inr ⟨g, cap, cur, h1, by omega, h3⟩
theorem OwnT.shape {T : TypeId} {w : World} {B : Nat} {v : Value} {ps : List (Int × Int)} (h : OwnT T w B v ps) : ∃ a c, v = .slice a ps.length c ∧ ps.length ≤ c ∧ c ≤ maxLen := by
  rcases h.2 with ⟨rfl, h0⟩ | ⟨g, cap, cur, rfl, _, _, h1, h2, _⟩
  · exact ⟨none, 0, by rw [h0], by omega, by unfold maxLen; omega⟩
  · exact ⟨_, cap, rfl, h1, h2⟩
theorem OwnT.cells {T : TypeId} {w : World} {B n c : Nat} {a : Option Addr} {ps : List (Int × Int)} (h : OwnT T w B (.slice a n c) ps) {i : Nat} (hi : i < ps.length) : ∃ g, a = some ⟨g, 0, none⟩ ∧ w.cell? ⟨g, i * 2, none⟩ = some (.int .i64 (ps.getD i (0, 0)).1) ∧ w.cell? ⟨g, i * 2 + 1, none⟩ = some (.int .i64 (ps.getD i (0, 0)).2) := by
  rcases h.2 with ⟨h', h0⟩ | ⟨g, cap, cur, h', _, hg, hlc, _, hcs, ht⟩
  · omega
  · simp only [Value.slice.injEq] at h'
    obtain ⟨rfl, rfl, rfl⟩ := h'
    have hc := cellsQ_at ps i hi
    have hat : ∀ j, j < ps.length * 2 → cur[j]? = (cellsQ ps)[j]? := fun j hj => by
      rw [← ht, List.getElem?_take_of_lt hj]
      simp
    refine ⟨g, rfl, ?_, ?_⟩
    · rw [cell_of_row _ _ _ _ _ _ hg, hat _ (by omega)]; exact hc.1
    · rw [cell_of_row _ _ _ _ _ _ hg, hat _ (by omega)]; exact hc.2
theorem OwnT.blocks {T : TypeId} {w : World} {B : Nat} {v : Value} {ps : List (Int × Int)} (h : OwnT T w B v ps) : ∀ k, v.ownBlock = some k → B ≤ k := fun k hk => (h.lt k hk).1
end Go.Proofs.YtplkmkbambbemaeGreatDoor
namespace Go.Proofs.YtplkmkbambbemaeGreatDoor
open Go.ChangeShapes Go.WideShapes Go.ChangeAt Go.RowKit
/-- All lists of k bits, in their order. -/
def wordsM : Nat → List (List Int)
  | 0 => [[]]
  | k + 1 => (wordsM k).flatMap fun l => [l ++ [0], l ++ [1]]
def growW (LL : List (List Int)) (i : Nat) : List (List Int) := (LL.take i).flatMap fun l => [l ++ [0], l ++ [1]]
theorem growW_succ {LL : List (List Int)} {i : Nat} (h : i < LL.length) : growW LL (i + 1) = growW LL i ++ [LL.getD i [] ++ [0], LL.getD i [] ++ [1]] := by
  unfold growW
  rw [List.take_succ_eq_append_getElem h, List.flatMap_append]
  simp [List.getD, h]
theorem growW_all (LL : List (List Int)) : growW LL LL.length = LL.flatMap fun l => [l ++ [0], l ++ [1]] := by simp [growW]
theorem growW_length (LL : List (List Int)) (i : Nat) (h : i ≤ LL.length) : (growW LL i).length = 2 * i := by
  induction i with
  | zero => simp [growW]
  | succ i ih => rw [growW_succ (by omega), List.length_append, ih (by omega)]; simp; omega
theorem wordsM_succ (k : Nat) : wordsM (k + 1) = growW (wordsM k) (wordsM k).length := (growW_all _).symm
theorem wordsM_length (k : Nat) : (wordsM k).length = 2 ^ k := by
  induction k with
  | zero => rfl
  | succ k ih => rw [wordsM_succ, growW_length _ _ (Nat.le_refl _), ih, Nat.pow_succ]; omega
theorem count_grow (LL : List (List Int)) (c : List Int) (x : Int) (hx : x = 0 ∨ x = 1) : (LL.flatMap fun l => [l ++ [0], l ++ [1]]).count (c ++ [x]) = LL.count c := by
  induction LL with
  | nil => rfl
  | cons l LL ih =>
    rw [List.flatMap_cons, List.count_append, ih, List.count_cons (l := LL)]
    have e : List.count (c ++ [x]) [l ++ [0], l ++ [1]] = if l == c then 1 else 0 := by
      rw [List.count_cons, List.count_cons, List.count_nil]
      by_cases h : l = c
      · subst h
        rcases hx with rfl | rfl
        · simp
        · simp
      · simp [h]
    rw [e]
    omega
/-- Each list of k bits is one of them, once. -/
theorem words_count {k : Nat} : ∀ {c : List Int}, c.length = k → (∀ x ∈ c, x = 0 ∨ x = 1) → (wordsM k).count c = 1 := by
  induction k with
  | zero => intro c h _; rw [List.eq_nil_of_length_eq_zero h]; rfl
  | succ k ih =>
    intro c h hb
    have hne : c ≠ [] := by rintro rfl; simp at h
    obtain ⟨l, x, rfl⟩ : ∃ l x, c = l ++ [x] := ⟨c.dropLast, c.getLast hne, (List.dropLast_concat_getLast hne).symm⟩
    rw [wordsM, count_grow _ _ _ (hb x (by simp))]
    exact ih (by simpa using h) (fun y hy => hb y (by simp [hy]))
/-- I (first 0) or Q (first 1) of bits, from the innermost out. -/
def sideR (l : List Int) (first : Nat) : Nat → Int
  | 0 => 0
  | r + 1 => if l.getD (l.length - 2 + first - 2 * r) 0 = 1 then -(if r = 0 then 1 else 2 * (r : Int) - sideR l first r) else (if r = 0 then 1 else 2 * (r : Int) - sideR l first r)
def farM (p q : Int × Int) : Int := (p.1 - q.1) * (p.1 - q.1) + (p.2 - q.2) * (p.2 - q.2)
end Go.Proofs.YtplkmkbambbemaeGreatDoor
namespace Go.Proofs.YtplkmkbambbemaeGreatDoor
open Go.ChangeShapes Go.WideShapes Go.ChangeAt Go.RowKit
def Pts (w : World) (a : Option Addr) (ps : List (Int × Int)) : Prop := ps ≠ [] → ∃ b off, a = some ⟨b, off, none⟩ ∧ ∀ i, i < ps.length → w.cell? ⟨b, off + i * 2, none⟩ = some (.int .i64 (ps.getD i (0, 0)).1) ∧ w.cell? ⟨b, off + i * 2 + 1, none⟩ = some (.int .i64 (ps.getD i (0, 0)).2)
theorem Pts.at {w : World} {a : Option Addr} {ps : List (Int × Int)} (h : Pts w a ps) {i : Nat} (hi : i < ps.length) : ∃ b off, a = some ⟨b, off, none⟩ ∧ ∀ i, i < ps.length → w.cell? ⟨b, off + i * 2, none⟩ = some (.int .i64 (ps.getD i (0, 0)).1) ∧ w.cell? ⟨b, off + i * 2 + 1, none⟩ = some (.int .i64 (ps.getD i (0, 0)).2) :=
  h (by rintro rfl; simp at hi)
theorem Pts.below {w w' : World} {a : Option Addr} {ps : List (Int × Int)} (h : Pts w a ps) (hb : Below w.heap.size w w') : Pts w' a ps := by
  intro hne
  obtain ⟨b, off, rfl, hc⟩ := h hne
  exact ⟨b, off, rfl, fun i hi => ⟨(hb.cell (World.block_lt_of_cell? w _ (hc i hi).1)).trans (hc i hi).1, (hb.cell (World.block_lt_of_cell? w _ (hc i hi).2)).trans (hc i hi).2⟩⟩
theorem pts_range {w : World} {b o : Nat} {p : Int × Int} (h : w.cell? ⟨b, o, none⟩ = some (.int .i64 p.1) ∧ w.cell? ⟨b, o + 1, none⟩ = some (.int .i64 p.2)) : w.rangeAt b o [.int .i64 p.1, .int .i64 p.2] := by
  intro j v hv
  match j, hv with
  | 0, hv => simp at hv; rw [← hv]; simpa using h.1
  | 1, hv => simp at hv; rw [← hv]; simpa using h.2
/-- Every point within a square. -/
def PtsIn (M : Int) (ps : List (Int × Int)) : Prop := ∀ i, (-M ≤ (ps.getD i (0, 0)).1 ∧ (ps.getD i (0, 0)).1 ≤ M) ∧ -M ≤ (ps.getD i (0, 0)).2 ∧ (ps.getD i (0, 0)).2 ≤ M
end Go.Proofs.YtplkmkbambbemaeGreatDoor
namespace Go.Proofs.YtplkmkbambbemaeGreatDoor
open Go.ChangeShapes Go.WideShapes Go.ChangeAt Go.RowKit
theorem Tryz.infoQ : (Tryz.prog.info? 44).map (fun i => (i.zero, i.size, i.bytes)) = some (some (.agg #[.int .i64 0, .int .i64 0]), 2, 16) := by kernel_rfl
theorem Tryz.sizeQ : (Tryz.prog.info? 44).map (·.size) = some 2 := by kernel_rfl
/-- Points that fill a block. -/
def PArr (w : World) (g : Nat) (ps : List (Int × Int)) : Prop := w.heap[g]? = some (.cells (cellsQ ps).toArray 44 (0, 0))
theorem PArr.cells {w : World} {g : Nat} {ps : List (Int × Int)} (h : PArr w g ps) {i : Nat} (hi : i < ps.length) : w.cell? ⟨g, i * 2, none⟩ = some (.int .i64 (ps.getD i (0, 0)).1) ∧ w.cell? ⟨g, i * 2 + 1, none⟩ = some (.int .i64 (ps.getD i (0, 0)).2) := by
  have := cellsQ_at ps i hi
  rw [cell_of_row w g _ _ _ (0, 0) h, cell_of_row w g _ _ _ (0, 0) h]
  simpa using this
theorem PArr.free {w : World} {g : Nat} {ps : List (Int × Int)} (h : PArr w g ps) (j : Nat) : w.frozen? ⟨g, j, none⟩ = false := frozen_of_row w g j _ _ h
theorem PArr.set {w : World} {g : Nat} {ps : List (Int × Int)} (h : PArr w g ps) {i : Nat} (hi : i < ps.length) (p : Int × Int) : PArr (w.setCells g (i * 2) [.int .i64 p.1, .int .i64 p.2]) g (ps.set i p) := by
  unfold PArr
  show ((w.setCell ⟨g, i * 2, none⟩ (.int .i64 p.1)).setCell ⟨g, i * 2 + 1, none⟩ (.int .i64 p.2)).heap[g]? = _
  have h1 := heap_setCell_same w g (i * 2) _ _ (.int .i64 p.1) h
  rw [heap_setCell_same _ g (i * 2 + 1) _ _ (.int .i64 p.2) h1, cellsQ_set p ps i hi]
  simp
theorem PArr.below {w w' : World} {g B : Nat} {ps : List (Int × Int)} (h : PArr w g ps) (hb : Below B w w') (hg : g < B) : PArr w' g ps := (hb.block g hg).trans h
theorem PArr.lt {w : World} {g : Nat} {ps : List (Int × Int)} (h : PArr w g ps) : g < w.heap.size := by
  rcases Nat.lt_or_ge g w.heap.size with e | e
  · exact e
  · have : w.heap[g]? = none := Array.getElem?_eq_none e
    unfold PArr at h
    rw [this] at h; cases h
theorem PArr.pts {w : World} {g : Nat} {ps : List (Int × Int)} (h : PArr w g ps) : Pts w (some ⟨g, 0, none⟩) ps := by
  intro _
  refine ⟨g, 0, rfl, fun i hi => ?_⟩
  rw [Nat.zero_add]
  exact h.cells hi
/-- .. as a row of one's own. -/
theorem PArr.owns {w : World} {g B n : Nat} {ps : List (Int × Int)} (h : PArr w g ps) (hB : B ≤ g) (hl : ps.length = n) (hm : n ≤ maxLen) : w.ownsRow B 44 2 (.slice (some ⟨g, 0, none⟩) n n) n (cellsQ ps) := by
  subst hl
  have hc := cellsQ_length ps
  refine ⟨by omega, .inr ⟨g, _, _, rfl, hB, h, Nat.le_refl _, hm, by simp; omega, ?_⟩⟩
  rw [List.take_of_length_le (by simp; omega)]
theorem wpList_makePts {w : World} {ops : Array Oper} {rest : List Oper} {o : Oper} {a : Act} {Q : Exit → Act → World → Prop} (N : Nat) (hgd : o.guard = none) (l c : Operand)
    (ho : o.op = Op.makeSlice 36 l c) (x y : Int) (hl : a.eval l = .int .i64 x) (hc : a.eval c = .int .i64 y) (hx : x = (N : Int)) (hy : y = (N : Int)) (hN : N ≤ 1000000)
    (h : ∀ w', PArr w' w.heap.size (List.replicate N (0, 0)) → Below w.heap.size w w' → wpList Tryz.prog ops Q rest (a.put o.dst (.slice (some ⟨w.heap.size, 0, none⟩) N N)) w') :
    wpList Tryz.prog ops Q (o :: rest) a w := by
  obtain ⟨i0, hi, hz0, hz1, hz2⟩ := info_parts Tryz.infoQ
  refine wpList_make_full w hgd l c 36 ho w.heap.size 44 i0 (.agg #[.int .i64 0, .int .i64 0]) 2 Tryz.underlying36 hi hz0 hz1 .i64 .i64 x y N hl hc hx hy (by rw [hz2]; omega) (by unfold maxLen; omega) (Nat.le_refl _) fun w' h1 h2 => ?_
  have hb := (Below.refl w.heap.size w).grown h2 (Nat.le_refl _) (by intro k hk; cases hk)
  refine h w' ?_ hb
  have e : (madeCells (Value.cells (.agg #[.int .i64 0, .int .i64 0])) (N * 2)).toList = List.replicate (N * 2) (.int .i64 0) := by
    refine List.ext_getElem (by simp [madeCells]) fun i i1 i2 => ?_
    have h2 : i % 2 = 0 ∨ i % 2 = 1 := by omega
    rcases h2 with h2 | h2 <;> simp [madeCells, Value.cells, h2]
  rw [e] at h1
  rcases h1.2 with ⟨h', _⟩ | ⟨g', cap, cur, h', hB, hg, _, hm, hcs, ht⟩
  · simp at h'
  · simp only [Value.slice.injEq, Option.some.injEq, Addr.mk.injEq, and_true] at h'
    obtain ⟨rfl, _, rfl⟩ := h'
    unfold PArr
    rw [hg, cellsQ_zero, ← ht, List.take_of_length_le (by simp; omega)]
theorem run_storeQ {ρ : Operand → Value} (w : World) {o : Oper} {x y : Operand} {g i : Nat} {p : Int × Int} {ps : List (Int × Int)} (ho : o.op = .store 44 x y) (h : ρ x = .pointer (some ⟨g, i * 2, none⟩)) (h' : ρ y = .agg #[.int .i64 p.1, .int .i64 p.2]) (ha : PArr w g ps) (hi : i < ps.length) : (execOp ρ o).run Tryz.prog w = .ok .skip (w.setCells g (i * 2) [.int .i64 p.1, .int .i64 p.2]) := by
  have ht : w.there g (i * 2) 2 := by
    intro j hj
    have hc := ha.cells hi
    have h2 : j = 0 ∨ j = 1 := by omega
    rcases h2 with rfl | rfl
    · rw [Nat.add_zero, hc.1]; exact ⟨rfl, ha.free _⟩
    · rw [hc.2]; exact ⟨rfl, ha.free _⟩
  have := run_storeAt_mid (P := Tryz.prog) w g (i * 2) 44 #[.int .i64 p.1, .int .i64 p.2] ht Tryz.sizeQ (by simp; exact ⟨rfl, rfl⟩)
  unfold execOp
  simp only [ho, h, h']
  simp [this, Result.andThen]
end Go.Proofs.YtplkmkbambbemaeGreatDoor
namespace Go.Proofs.YtplkmkbambbemaeGreatDoor
open Go.ChangeShapes Go.WideShapes Go.ChangeAt Go.RowKit
/-- The byte at a place of a text. -/
def byteAt (s : ByteArray) (j : Nat) : Int := if h : j < s.size then (s[j].toNat : Int) else 0
/-- The bit at a place of a text: the first byte's highest place first. -/
def bitAt (s : ByteArray) (i : Nat) : Int := byteAt s (i / 8) / 2 ^ (7 - i % 8) % 2
theorem byteAt_eq (s : ByteArray) (j : Nat) (h : j < s.size) : byteAt s j = (s[j].toNat : Int) := by simp [byteAt, h]
theorem byteAt_bd (s : ByteArray) (j : Nat) : 0 ≤ byteAt s j ∧ byteAt s j ≤ 255 := by
  unfold byteAt
  split
  · have := s[j].toNat_lt; omega
  · omega
theorem bitAt_bd (s : ByteArray) (i : Nat) : 0 ≤ bitAt s i ∧ bitAt s i ≤ 1 := by unfold bitAt; omega
theorem val_int {k : IntKind} {a b : Int} (h : a = b) : Value.int k a = Value.int k b := by rw [h]
end Go.Proofs.YtplkmkbambbemaeGreatDoor
namespace Go.Proofs.YtplkmkbambbemaeGreatDoor
open Go.ChangeShapes Go.WideShapes Go.ChangeAt Go.RowKit
/-- The first n bits of a text. -/
def unpackTo (s : ByteArray) (n : Nat) : List Int := (List.range n).map (bitAt s)
/-- What is wrong with asking for n bits of a text. -/
def unpackErr (s : ByteArray) (n : Int) : Int := if n < 0 ∨ 8 * (s.size : Int) < n then 1 else if 4096 < n then 2 else 0
def unpackL (s : ByteArray) (n : Int) : List Int := if unpackErr s n = 0 then unpackTo s n.toNat else []
theorem unpackTo_succ (s : ByteArray) (n : Nat) : unpackTo s (n + 1) = unpackTo s n ++ [bitAt s n] := by simp [unpackTo, List.range_succ]
theorem unpackTo_length (s : ByteArray) (n : Nat) : (unpackTo s n).length = n := by simp [unpackTo]
end Go.Proofs.YtplkmkbambbemaeGreatDoor
namespace Go.Proofs.YtplkmkbambbemaeGreatDoor
open Go.ChangeShapes Go.WideShapes Go.ChangeAt Go.RowKit
/-- A list of numbers of one's own, as a slice. -/
theorem OwnI.slice {w : World} {B : Nat} {v : Value} {L : List Int} {k : Nat} (h : OwnI w B v L) (hk : L.length = k) : ∃ a c, v = .slice a k c ∧ k ≤ c ∧ c ≤ maxLen ∧ Rd .i64 w a L ∧ (∀ g o, a = some ⟨g, o, none⟩ → B ≤ g) := by
  obtain ⟨a, c, rfl, h1, h2⟩ := h.shape
  subst hk
  refine ⟨a, c, rfl, h1, h2, h.rd, ?_⟩
  rintro g o rfl
  exact ownI_blocks h g rfl
theorem places_at {n k i : Nat} (hk : k ≤ n) (hi : i < k) : (placesM n k).getD i 0 < n := by
  have hl := places_length hk
  have e : (placesM n k).getD i 0 = (placesM n k)[i] := by simp [List.getD, hl, hi]
  rw [e]
  exact places_lt (List.getElem_mem _)
end Go.Proofs.YtplkmkbambbemaeGreatDoor
namespace Go.Proofs.YtplkmkbambbemaeGreatDoor
open Go.ChangeShapes Go.WideShapes Go.ChangeAt Go.RowKit
/-- The bit at a place, 0 outside. -/
def bitI (zs : List Int) (j : Int) : Int := if j < 0 then 0 else zs.getD j.toNat 0
theorem bitI_bd {zs : List Int} (h : Bits zs) (j : Int) : 0 ≤ bitI zs j ∧ bitI zs j ≤ 1 := by
  unfold bitI
  split
  · omega
  · exact h _
/-- The three coded bits of the place i. -/
def trip (zs : List Int) (i : Nat) : List Int :=
  [(bitI zs i + bitI zs (i - 1) + bitI zs (i - 2) + bitI zs (i - 3) + bitI zs (i - 6)) % 2, (bitI zs i + bitI zs (i - 2) + bitI zs (i - 3) + bitI zs (i - 5) + bitI zs (i - 6)) % 2, (bitI zs i + bitI zs (i - 1) + bitI zs (i - 2) + bitI zs (i - 4) + bitI zs (i - 6)) % 2]
def codedTo (zs : List Int) : Nat → List Int
  | 0 => []
  | i + 1 => codedTo zs i ++ trip zs i
theorem codedTo_length (zs : List Int) : ∀ i, (codedTo zs i).length = 3 * i
  | 0 => rfl
  | i + 1 => by rw [codedTo, List.length_append, codedTo_length zs i]; simp [trip]; omega
end Go.Proofs.YtplkmkbambbemaeGreatDoor
