import Derived.Test.YtdndeegpbjlibadGreatDoorK01
import Derived.Test.YtdndeegpbjlibadGreatDoorK02
import Derived.Deep.SlicePairs
import Derived.Deep.MidRow
import Derived.Laws.StructEq
namespace Go.Proofs.YtdndeegpbjlibadGreatDoor
open Go.ChangeShapes Go.WideShapes Go.ChangeAt Go.RowKit

/-! POINTS, as mathematics. -/

/-- All lists of k bits, in their order. -/
def wordsM : Nat → List (List Int)
  | 0 => [[]]
  | k + 1 => (wordsM k).flatMap fun l => [l ++ [0], l ++ [1]]
def growW (LL : List (List Int)) (i : Nat) : List (List Int) := (LL.take i).flatMap fun l => [l ++ [0], l ++ [1]]
theorem growW_succ {LL : List (List Int)} {i : Nat} (h : i < LL.length) : growW LL (i + 1) = growW LL i ++ [LL.getD i [] ++ [0], LL.getD i [] ++ [1]] := by
  unfold growW
  rw [List.take_succ_eq_append_getElem h, List.flatMap_append]
  simp [List.getD, h]
theorem growW_all (LL : List (List Int)) : growW LL LL.length = LL.flatMap fun l => [l ++ [0], l ++ [1]] := by simp [growW]
theorem growW_length (LL : List (List Int)) (i : Nat) (h : i ≤ LL.length) : (growW LL i).length = 2 * i := by
  induction i with
  | zero => simp [growW]
  | succ i ih => rw [growW_succ (by omega), List.length_append, ih (by omega)]; simp; omega
theorem wordsM_succ (k : Nat) : wordsM (k + 1) = growW (wordsM k) (wordsM k).length := (growW_all _).symm
theorem wordsM_length (k : Nat) : (wordsM k).length = 2 ^ k := by
  induction k with
  | zero => rfl
  | succ k ih => rw [wordsM_succ, growW_length _ _ (Nat.le_refl _), ih, Nat.pow_succ]; omega
theorem mem_words_succ {k : Nat} {c : List Int} : c ∈ wordsM (k + 1) ↔ ∃ l ∈ wordsM k, c = l ++ [0] ∨ c = l ++ [1] := by simp [wordsM]
theorem words_len {k : Nat} {c : List Int} (h : c ∈ wordsM k) : c.length = k := by
  induction k generalizing c with
  | zero => simp [wordsM] at h; simp [h]
  | succ k ih =>
    obtain ⟨l, hl, rfl | rfl⟩ := mem_words_succ.1 h
    · simp [ih hl]
    · simp [ih hl]
theorem words_bits {k : Nat} {c : List Int} (h : c ∈ wordsM k) : ∀ x ∈ c, x = 0 ∨ x = 1 := by
  induction k generalizing c with
  | zero => simp [wordsM] at h; simp [h]
  | succ k ih =>
    obtain ⟨l, hl, rfl | rfl⟩ := mem_words_succ.1 h
    · intro x hx
      rw [List.mem_append] at hx
      rcases hx with hx | hx
      · exact ih hl x hx
      · left; simpa using hx
    · intro x hx
      rw [List.mem_append] at hx
      rcases hx with hx | hx
      · exact ih hl x hx
      · right; simpa using hx
theorem words_at {k i : Nat} (h : i < 2 ^ k) : (wordsM k).getD i [] ∈ wordsM k := by
  have hl : i < (wordsM k).length := by rw [wordsM_length]; exact h
  have e : (wordsM k).getD i [] = (wordsM k)[i] := by simp [List.getD, hl]
  rw [e]
  exact List.getElem_mem hl
theorem count_grow (LL : List (List Int)) (c : List Int) (x : Int) (hx : x = 0 ∨ x = 1) : (LL.flatMap fun l => [l ++ [0], l ++ [1]]).count (c ++ [x]) = LL.count c := by
  induction LL with
  | nil => rfl
  | cons l LL ih =>
    rw [List.flatMap_cons, List.count_append, ih, List.count_cons (l := LL)]
    have e : List.count (c ++ [x]) [l ++ [0], l ++ [1]] = if l == c then 1 else 0 := by
      rw [List.count_cons, List.count_cons, List.count_nil]
      by_cases h : l = c
      · subst h
        rcases hx with rfl | rfl
        · simp
        · simp
      · simp [h]
    rw [e]
    omega
/-- Each list of k bits is one of them, once. -/
theorem words_count {k : Nat} : ∀ {c : List Int}, c.length = k → (∀ x ∈ c, x = 0 ∨ x = 1) → (wordsM k).count c = 1 := by
  induction k with
  | zero => intro c h _; rw [List.eq_nil_of_length_eq_zero h]; rfl
  | succ k ih =>
    intro c h hb
    have hne : c ≠ [] := by rintro rfl; simp at h
    obtain ⟨l, x, rfl⟩ : ∃ l x, c = l ++ [x] := ⟨c.dropLast, c.getLast hne, (List.dropLast_concat_getLast hne).symm⟩
    rw [wordsM, count_grow _ _ _ (hb x (by simp))]
    exact ih (by simpa using h) (fun y hy => hb y (by simp [hy]))
theorem words_pick {k : Nat} {c : List Int} (h : c.length = k) (hb : ∀ x ∈ c, x = 0 ∨ x = 1) : (wordsM k).filter (fun l => decide (l = c)) = [c] := by
  have := List.filter_eq (l := wordsM k) c
  rw [words_count h hb] at this
  rw [this]
  rfl

/-- I (first 0) or Q (first 1) of bits, from the innermost out. -/
def sideR (l : List Int) (first : Nat) : Nat → Int
  | 0 => 0
  | r + 1 => if l.getD (l.length - 2 + first - 2 * r) 0 = 1 then -(if r = 0 then 1 else 2 * (r : Int) - sideR l first r) else (if r = 0 then 1 else 2 * (r : Int) - sideR l first r)
def sideM (l : List Int) (first : Nat) : Int := sideR l first (l.length / 2)
def pointM (l : List Int) : Int × Int := (sideM l 0, sideM l 1)
def farM (p q : Int × Int) : Int := (p.1 - q.1) * (p.1 - q.1) + (p.2 - q.2) * (p.2 - q.2)
theorem sideR_bd (l : List Int) (first : Nat) : ∀ r, r ≤ 3 → -(9 : Int) ≤ sideR l first r ∧ sideR l first r ≤ 9
  | 0, _ => by simp [sideR]
  | 1, _ => by simp only [sideR]; split <;> simp
  | 2, _ => by
    have h1 : -1 ≤ sideR l first 1 ∧ sideR l first 1 ≤ 1 := by simp only [sideR]; split <;> simp
    simp only [sideR] at h1 ⊢
    split <;> simp <;> omega
  | 3, _ => by
    have h2 : -3 ≤ sideR l first 2 ∧ sideR l first 2 ≤ 3 := by
      have h1 : -1 ≤ sideR l first 1 ∧ sideR l first 1 ≤ 1 := by simp only [sideR]; split <;> simp
      simp only [sideR] at h1 ⊢
      split <;> simp <;> omega
    have e : sideR l first 3 = if l.getD (l.length - 2 + first - 2 * 2) 0 = 1 then -(4 - sideR l first 2) else 4 - sideR l first 2 := by rw [sideR]; simp
    rw [e]
    split <;> omega
  | r + 4, h => by omega
end Go.Proofs.YtdndeegpbjlibadGreatDoor

namespace Go.Proofs.YtdndeegpbjlibadGreatDoor
open Go.ChangeShapes Go.WideShapes Go.ChangeAt Go.RowKit

/-! WHAT THE PROGRAM COMPUTES OF POINTS: by axes. -/

def bitN (n place : Nat) : Nat := n / 2 ^ place % 2
theorem bitN_or (n place : Nat) : bitN n place = 0 ∨ bitN n place = 1 := by unfold bitN; omega
/-- An axis's level of a number's lowest t bits. -/
def levM (n : Nat) : Nat → Int
  | 0 => 0
  | t + 1 => (1 - 2 * (bitN n t : Int)) * ((2 ^ t : Nat) - levM n t)
def levsM (h : Nat) : List Int := (List.range (2 ^ h)).map fun n => levM n h
/-- A point's bits of one axis as a number. -/
def numM (c : List Int) (axis : Nat) : Nat → Nat
  | 0 => 0
  | t + 1 => 2 * numM c axis t + (c.getD (axis + 2 * t) 0).toNat

def sqM (h : Nat) (x : Int) (n : Nat) : Int := (x - levM n h) * (x - levM n h)
def leastTo (h : Nat) (x : Int) (place bit : Nat) : Nat → Int
  | 0 => 9223372036854775807
  | j + 1 => if bitN j place = bit then min (leastTo h x place bit j) (sqM h x j) else leastTo h x place bit j
def hearM (h : Nat) (x : Int) (place : Nat) : Int := leastTo h x place 1 (2 ^ h) - leastTo h x place 0 (2 ^ h)
def nearA (h : Nat) (x : Int) : Nat → Nat
  | 0 => 0
  | j + 1 => if sqM h x j < sqM h x (nearA h x j) then j else nearA h x j
theorem nearA_lt (h : Nat) (x : Int) : ∀ j, 1 ≤ j → nearA h x j < j
  | 1, _ => by simp [nearA]
  | j + 2, _ => by
    have := nearA_lt h x (j + 1) (by omega)
    rw [nearA]
    split <;> omega
theorem nearA_bd (h : Nat) (x : Int) {j : Nat} (hj : j ≤ 2 ^ h) : nearA h x j < 2 ^ h := by
  by_cases e : j = 0
  · subst e; exact Nat.two_pow_pos h
  · have := nearA_lt h x j (by omega); omega

theorem levM_bd (n : Nat) : ∀ t, t ≤ 3 → -(7 : Int) ≤ levM n t ∧ levM n t ≤ 7
  | 0, _ => by simp [levM]
  | 1, _ => by
    rcases bitN_or n 0 with e | e <;> simp [levM, e]
  | 2, _ => by
    rcases bitN_or n 0 with e | e <;> rcases bitN_or n 1 with e2 | e2 <;> simp [levM, e, e2]
  | 3, _ => by
    rcases bitN_or n 0 with e | e <;> rcases bitN_or n 1 with e2 | e2 <;> rcases bitN_or n 2 with e3 | e3 <;> simp [levM, e, e2, e3]
  | t + 4, h => by omega
theorem sqM_bd {h : Nat} {x : Int} (hh : h ≤ 3) (hx : -1000 ≤ x ∧ x ≤ 1000) (n : Nat) : 0 ≤ sqM h x n ∧ sqM h x n ≤ 4000000 := by
  have h1 := levM_bd n h hh
  have sq : ∀ z : Int, -2000 ≤ z ∧ z ≤ 2000 → 0 ≤ z * z ∧ z * z ≤ 4000000 := fun z hz => by
    have h1 : z * z = (z.natAbs * z.natAbs : Nat) := by rw [Int.natAbs_mul_self]
    have h2 : z.natAbs * z.natAbs ≤ 2000 * 2000 := Nat.mul_le_mul (by omega) (by omega)
    omega
  exact sq _ (by omega)

/-- What the program has gathered of one point behind t pairs of bits. -/
def pairsTo (F G : Nat → Int) (h : Nat) (t : Nat) : List Int := (List.range t).flatMap fun s => [F (h - 1 - s), G (h - 1 - s)]
theorem pairsTo_succ (F G : Nat → Int) (h t : Nat) : pairsTo F G h (t + 1) = pairsTo F G h t ++ [F (h - 1 - t), G (h - 1 - t)] := by
  unfold pairsTo
  rw [List.range_succ, List.flatMap_append]
  simp
theorem pairsTo_length (F G : Nat → Int) (h : Nat) : ∀ t, (pairsTo F G h t).length = 2 * t
  | 0 => rfl
  | t + 1 => by rw [pairsTo_succ, List.length_append, pairsTo_length F G h t]; simp; omega
end Go.Proofs.YtdndeegpbjlibadGreatDoor

namespace Go.Proofs.YtdndeegpbjlibadGreatDoor
open Go.ChangeShapes Go.WideShapes Go.ChangeAt Go.RowKit

/-! POINTS THAT LIE IN MEMORY. -/

def Pts (w : World) (a : Option Addr) (ps : List (Int × Int)) : Prop := ps ≠ [] → ∃ b off, a = some ⟨b, off, none⟩ ∧ ∀ i, i < ps.length → w.cell? ⟨b, off + i * 2, none⟩ = some (.int .i64 (ps.getD i (0, 0)).1) ∧ w.cell? ⟨b, off + i * 2 + 1, none⟩ = some (.int .i64 (ps.getD i (0, 0)).2)
theorem Pts.at {w : World} {a : Option Addr} {ps : List (Int × Int)} (h : Pts w a ps) {i : Nat} (hi : i < ps.length) : ∃ b off, a = some ⟨b, off, none⟩ ∧ ∀ i, i < ps.length → w.cell? ⟨b, off + i * 2, none⟩ = some (.int .i64 (ps.getD i (0, 0)).1) ∧ w.cell? ⟨b, off + i * 2 + 1, none⟩ = some (.int .i64 (ps.getD i (0, 0)).2) :=
  h (by rintro rfl; simp at hi)
theorem Pts.below {w w' : World} {a : Option Addr} {ps : List (Int × Int)} (h : Pts w a ps) (hb : Below w.heap.size w w') : Pts w' a ps := by
  intro hne
  obtain ⟨b, off, rfl, hc⟩ := h hne
  exact ⟨b, off, rfl, fun i hi => ⟨(hb.cell (World.block_lt_of_cell? w _ (hc i hi).1)).trans (hc i hi).1, (hb.cell (World.block_lt_of_cell? w _ (hc i hi).2)).trans (hc i hi).2⟩⟩
theorem pts_range {w : World} {b o : Nat} {p : Int × Int} (h : w.cell? ⟨b, o, none⟩ = some (.int .i64 p.1) ∧ w.cell? ⟨b, o + 1, none⟩ = some (.int .i64 p.2)) : w.rangeAt b o [.int .i64 p.1, .int .i64 p.2] := by
  intro j v hv
  match j, hv with
  | 0, hv => simp at hv; rw [← hv]; simpa using h.1
  | 1, hv => simp at hv; rw [← hv]; simpa using h.2

/-- Every point within a square. -/
def PtsIn (M : Int) (ps : List (Int × Int)) : Prop := ∀ i, (-M ≤ (ps.getD i (0, 0)).1 ∧ (ps.getD i (0, 0)).1 ≤ M) ∧ -M ≤ (ps.getD i (0, 0)).2 ∧ (ps.getD i (0, 0)).2 ≤ M

end Go.Proofs.YtdndeegpbjlibadGreatDoor

namespace Go.Proofs.YtdndeegpbjlibadGreatDoor
open Go.ChangeShapes Go.WideShapes Go.ChangeAt Go.RowKit

theorem take_extP {xs ys : List (Int × Int)} {k : Nat} (hl : ys.length = xs.length) (hk : k < xs.length) (h : xs.take k = ys.take k) (he : xs.getD k (0, 0) = ys.getD k (0, 0)) : xs.take (k + 1) = ys.take (k + 1) := by
  rw [List.take_succ_eq_append_getElem hk, List.take_succ_eq_append_getElem (by omega), h]
  simp only [List.getD, List.getElem?_eq_getElem hk, List.getElem?_eq_getElem (show k < ys.length by omega), Option.getD_some] at he
  rw [he]

theorem ret_boolQ {a b : Bool} (h : a = b) : Ending.returned (.bool a) = .returned (.bool b) := by rw [h]
theorem run_eqP (w : World) (p1 p2 q1 q2 : Int) : (Op.equalIn 10000 29 (.agg #[.int .i64 p1, .int .i64 p2]) (.agg #[.int .i64 q1, .int .i64 q2])).run Tryz.prog w = .ok (p1 == q1 && p2 == q2) w := by
  have hf : Tryz.prog.underlying 29 = some (.struct (Tryz.prog.fieldsOf 29)) := by kernel_rfl
  rw [run_equalIn_struct w 9999 29 _ _ hf (by kernel_rfl)]
  simp only [Program.fieldsOf, Tryz.underlying29]
  simp [Op.eqFields, go_sem]
  by_cases h1 : p1 = q1
  · by_cases h2 : p2 = q2
    · simp [h1, h2]
    · simp [h1, h2]
  · simp [h1]

end Go.Proofs.YtdndeegpbjlibadGreatDoor

namespace Go.Proofs.YtdndeegpbjlibadGreatDoor
open Go.ChangeShapes Go.WideShapes Go.ChangeAt Go.RowKit

/-! MAY POINTS BE HEARD? -/

def ordOk5 (order : Int) : Bool := decide (order = 2 ∨ order = 4 ∨ order = 6)
def inSq (p : Int × Int) : Bool := decide ((-1000 ≤ p.1 ∧ p.1 ≤ 1000) ∧ -1000 ≤ p.2 ∧ p.2 ≤ 1000)
def hearsOk (ps : List (Int × Int)) (order : Int) : Bool := ordOk5 order && decide ((ps.length : Int) * order ≤ 4096) && ps.all inSq
def InTo (ps : List (Int × Int)) (k : Nat) : Prop := ∀ j, j < k → inSq (ps.getD j (0, 0)) = true
theorem all_inTo {ps : List (Int × Int)} {k : Nat} (hk : k = ps.length) (h : InTo ps k) : ps.all inSq = true := by
  rw [List.all_eq_true]
  intro p hp
  obtain ⟨i, hi, rfl⟩ := List.getElem_of_mem hp
  have := h i (by omega)
  simpa [List.getD, hi] using this
theorem not_all {ps : List (Int × Int)} {k : Nat} (hk : k < ps.length) (h : inSq (ps.getD k (0, 0)) = false) : ps.all inSq = false := by
  rw [List.all_eq_false]
  refine ⟨ps.getD k (0, 0), ?_, by rw [h]; simp⟩
  simp [List.getD, hk]

end Go.Proofs.YtdndeegpbjlibadGreatDoor
