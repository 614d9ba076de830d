import Derived.Test.YtdndeegpbjlibadGreatDoorK01
import Derived.Test.YtdndeegpbjlibadGreatDoorK04
namespace Go.Proofs.YtdndeegpbjlibadGreatDoor

/-! THE CODE WITH A MEMORY, as mathematics: states, gains, the best way. -/

def AllBits (c : List Int) : Prop := ∀ x ∈ c, 0 ≤ x ∧ x ≤ 1

/-- The state behind a bit: the newest of six bits is worth 32. -/
def nxt (s x : Int) : Int := x * 32 + s / 2
/-- The three coded bits of a bit at a state. -/
def out0 (s x : Int) : Int := (x + s / 32 % 2 + s / 16 % 2 + s / 8 % 2 + s % 2) % 2
def out1 (s x : Int) : Int := (x + s / 16 % 2 + s / 8 % 2 + s / 2 % 2 + s % 2) % 2
def out2 (s x : Int) : Int := (x + s / 32 % 2 + s / 16 % 2 + s / 4 % 2 + s % 2) % 2
def sgn (c y : Int) : Int := if c = 1 then -y else y
/-- What a bit at a state brings at the place i. -/
def gain (soft : List Int) (i : Nat) (s x : Int) : Int := sgn (out0 s x) (soft.getD (3 * i) 0) + sgn (out1 s x) (soft.getD (3 * i + 1) 0) + sgn (out2 s x) (soft.getD (3 * i + 2) 0)
/-- What bits score from a place and a state on. -/
def sc (soft : List Int) : Nat → Int → List Int → Int
  | _, _, [] => 0
  | i, s, x :: c => gain soft i s x + sc soft (i + 1) (nxt s x) c
def ends : Int → List Int → Int
  | s, [] => s
  | s, x :: c => ends (nxt s x) c

theorem sc_append (soft : List Int) : ∀ (c d : List Int) (i : Nat) (s : Int), sc soft i s (c ++ d) = sc soft i s c + sc soft (i + c.length) (ends s c) d
  | [], d, i, s => by simp [sc, ends]
  | x :: c, d, i, s => by
    show gain soft i s x + sc soft (i + 1) (nxt s x) (c ++ d) = gain soft i s x + sc soft (i + 1) (nxt s x) c + sc soft (i + (c.length + 1)) (ends (nxt s x) c) d
    rw [sc_append soft c d (i + 1) (nxt s x), show i + 1 + c.length = i + (c.length + 1) from by omega]
    omega
theorem ends_append : ∀ (c d : List Int) (s : Int), ends s (c ++ d) = ends (ends s c) d
  | [], _, _ => rfl
  | x :: c, d, s => ends_append c d (nxt s x)

theorem nxt_bd {s x : Int} (hs : 0 ≤ s ∧ s < 64) (hx : 0 ≤ x ∧ x ≤ 1) : 0 ≤ nxt s x ∧ nxt s x < 64 := by unfold nxt; omega
theorem ends_bd : ∀ (c : List Int), AllBits c → ∀ s, 0 ≤ s ∧ s < 64 → 0 ≤ ends s c ∧ ends s c < 64
  | [], _, _, h => h
  | x :: c, hc, s, h => ends_bd c (fun y hy => hc y (by simp [hy])) _ (nxt_bd h (hc x (by simp)))

/-- The order of bits: does a list come first? -/
def ahead : List Int → List Int → Bool
  | x :: a, y :: b => if x = y then ahead a b else decide (x < y)
  | _, _ => false

theorem ahead_irr : ∀ a, ahead a a = false
  | [] => rfl
  | x :: a => by simp [ahead, ahead_irr a]
theorem ahead_eq : ∀ (a b : List Int), a.length = b.length → ahead a b = false → ahead b a = false → a = b
  | [], [], _, _, _ => rfl
  | [], _ :: _, h, _, _ => by simp at h
  | _ :: _, [], h, _, _ => by simp at h
  | x :: a, y :: b, h, h1, h2 => by
    simp only [ahead] at h1 h2
    by_cases e : x = y
    · subst e
      simp only [if_true] at h1 h2
      rw [ahead_eq a b (by simpa using h) h1 h2]
    · have e' : ¬ y = x := fun h => e h.symm
      rw [if_neg e] at h1
      rw [if_neg e'] at h2
      simp at h1 h2
      omega
theorem ahead_trans : ∀ (a b c : List Int), a.length = b.length → b.length = c.length → ahead a b = false → ahead b c = false → ahead a c = false
  | [], _, _, _, _, _, _ => rfl
  | x :: a, [], _, h, _, _, _ => by simp at h
  | x :: a, y :: b, [], _, h, _, _ => by simp at h
  | x :: a, y :: b, z :: c, h, h', h1, h2 => by
    simp only [ahead] at h1 h2 ⊢
    by_cases e1 : x = y
    · subst e1
      by_cases e2 : x = z
      · subst e2
        simp only [if_true] at h1 h2 ⊢
        exact ahead_trans a b c (by simpa using h) (by simpa using h') h1 h2
      · rw [if_neg e2] at h2 ⊢
        exact h2
    · rw [if_neg e1] at h1
      by_cases e2 : y = z
      · subst e2
        rw [if_neg e1]
        exact h1
      · rw [if_neg e2] at h2
        simp at h1 h2
        have : ¬ x = z := by omega
        rw [if_neg this]
        simp
        omega
theorem ahead_snoc : ∀ (a b : List Int) (x : Int), a.length = b.length → ahead (a ++ [x]) (b ++ [x]) = ahead a b
  | [], [], x, _ => by simp [ahead]
  | [], _ :: _, _, h => by simp at h
  | _ :: _, [], _, h => by simp at h
  | y :: a, z :: b, x, h => by
    simp only [List.cons_append, ahead]
    rw [ahead_snoc a b x (by simpa using h)]

theorem ahead_drop (a b : List Int) (k : Nat) (ha : k < a.length) (hb : k < b.length) : ahead (a.drop k) (b.drop k) = if a.getD k 0 = b.getD k 0 then ahead (a.drop (k + 1)) (b.drop (k + 1)) else decide (a.getD k 0 < b.getD k 0) := by
  rw [List.drop_eq_getElem_cons ha, List.drop_eq_getElem_cons hb, ahead]
  have e1 : a.getD k 0 = a[k] := by simp [List.getD, ha]
  have e2 : b.getD k 0 = b[k] := by simp [List.getD, hb]
  rw [e1, e2]

/-- d is what is decoded: of those of the length n that meet a test none scores more, and of several it is the first. -/
structure Best (F : List Int → Int) (n : Nat) (d : List Int) : Prop where
  len : d.length = n
  bits : AllBits d
  most : ∀ o, o.length = n → AllBits o → F o < F d ∨ (F o = F d ∧ ahead o d = false)

theorem best_one {F : List Int → Int} {n : Nat} {d d' : List Int} (h : Best F n d) (h' : Best F n d') : d = d' := by
  rcases h.most d' h'.len h'.bits with h1 | ⟨h1, h2⟩
  · rcases h'.most d h.len h.bits with h3 | ⟨h3, _⟩ <;> omega
  · rcases h'.most d h.len h.bits with h3 | ⟨_, h4⟩
    · omega
    · exact ahead_eq d d' (h.len.trans h'.len.symm) h4 h2

def zeros6 : List Int := [0, 0, 0, 0, 0, 0]

/-- The best score from a place and a state on, r bits being left. -/
def top (soft : List Int) : Nat → Nat → Int → Int
  | 0, i, s => sc soft i s zeros6
  | r + 1, i, s => max (gain soft i s 0 + top soft r (i + 1) (nxt s 0)) (gain soft i s 1 + top soft r (i + 1) (nxt s 1))
/-- The first of the best ways. -/
def way (soft : List Int) : Nat → Nat → Int → List Int
  | 0, _, _ => []
  | r + 1, i, s => if gain soft i s 0 + top soft r (i + 1) (nxt s 0) < gain soft i s 1 + top soft r (i + 1) (nxt s 1) then 1 :: way soft r (i + 1) (nxt s 1) else 0 :: way soft r (i + 1) (nxt s 0)

theorem way_top (soft : List Int) : ∀ (r i : Nat) (s : Int), sc soft i s (way soft r i s ++ zeros6) = top soft r i s := by
  intro r
  induction r with
  | zero => intro i s; rfl
  | succ r ih =>
    intro i s
    rw [way, top]
    by_cases h : gain soft i s 0 + top soft r (i + 1) (nxt s 0) < gain soft i s 1 + top soft r (i + 1) (nxt s 1)
    · rw [if_pos h]
      show gain soft i s 1 + sc soft (i + 1) (nxt s 1) (way soft r (i + 1) (nxt s 1) ++ zeros6) = _
      rw [ih]; omega
    · rw [if_neg h]
      show gain soft i s 0 + sc soft (i + 1) (nxt s 0) (way soft r (i + 1) (nxt s 0) ++ zeros6) = _
      rw [ih]; omega

/-- VITERBI: no way scores more than the one that is decoded. -/
theorem way_best (soft : List Int) : ∀ (r i : Nat) (s : Int), Best (fun o => sc soft i s (o ++ zeros6)) r (way soft r i s)
  | 0, i, s => ⟨rfl, by intro x hx; simp [way] at hx, fun o ho _ => by
      have : o = [] := List.eq_nil_of_length_eq_zero ho
      subst this
      exact .inr ⟨rfl, rfl⟩⟩
  | r + 1, i, s => by
    have b0 := way_best soft r (i + 1) (nxt s 0)
    have b1 := way_best soft r (i + 1) (nxt s 1)
    have t0 := way_top soft r (i + 1) (nxt s 0)
    have t1 := way_top soft r (i + 1) (nxt s 1)
    have hw := way_top soft (r + 1) i s
    refine ⟨?_, ?_, fun o ho hob => ?_⟩
    · unfold way; split
      · simp [b1.len]
      · simp [b0.len]
    · unfold way; split
      · intro x hx
        rcases List.mem_cons.1 hx with rfl | hx
        · omega
        · exact b1.bits x hx
      · intro x hx
        rcases List.mem_cons.1 hx with rfl | hx
        · omega
        · exact b0.bits x hx
    · cases o with
      | nil => simp at ho
      | cons x o =>
        have hx := hob x (by simp)
        have hol : o.length = r := by simpa using ho
        have hoa : AllBits o := fun y hy => hob y (by simp [hy])
        show gain soft i s x + sc soft (i + 1) (nxt s x) (o ++ zeros6) < sc soft i s (way soft (r + 1) i s ++ zeros6) ∨ (gain soft i s x + sc soft (i + 1) (nxt s x) (o ++ zeros6) = sc soft i s (way soft (r + 1) i s ++ zeros6) ∧ ahead (x :: o) (way soft (r + 1) i s) = false)
        rw [hw]
        unfold top way
        rcases (show x = 0 ∨ x = 1 by omega) with rfl | rfl
        · rcases b0.most o hol hoa with h | ⟨h, h'⟩
          · rw [t0] at h
            left; omega
          · rw [t0] at h
            split
            · left; omega
            · rename_i hlt
              right
              refine ⟨by omega, ?_⟩
              simp [ahead, h']
        · rcases b1.most o hol hoa with h | ⟨h, h'⟩
          · rw [t1] at h
            left; omega
          · rw [t1] at h
            split
            · right
              refine ⟨by omega, ?_⟩
              simp [ahead, h']
            · rename_i hlt
              by_cases he : gain soft i s 1 + top soft r (i + 1) (nxt s 1) = gain soft i s 0 + top soft r (i + 1) (nxt s 0)
              · right
                refine ⟨by omega, ?_⟩
                simp [ahead]
              · left; omega

end Go.Proofs.YtdndeegpbjlibadGreatDoor

namespace Go.Proofs.YtdndeegpbjlibadGreatDoor
open Go.ChangeShapes Go.WideShapes Go.ChangeAt Go.RowKit

/-- Soft numbers: each within the bound. -/
def softOk (l : List Int) : Bool := l.all fun x => decide (-100000 ≤ x ∧ x ≤ 100000)
def SoftTo (l : List Int) (k : Nat) : Prop := ∀ j, j < k → -100000 ≤ l.getD j 0 ∧ l.getD j 0 ≤ 100000

theorem soft_all {l : List Int} (h : SoftTo l l.length) : softOk l = true := by
  unfold softOk
  rw [List.all_eq_true]
  intro x hx
  obtain ⟨k, hk, rfl⟩ := List.getElem_of_mem hx
  have := h k hk
  have e : l.getD k 0 = l[k] := by simp [List.getD, hk]
  rw [e] at this
  simpa using this
theorem soft_at {l : List Int} (h : softOk l = true) (k : Nat) : -100000 ≤ l.getD k 0 ∧ l.getD k 0 ≤ 100000 := by
  unfold softOk at h
  rw [List.all_eq_true] at h
  by_cases hk : k < l.length
  · have := h _ (List.getElem_mem hk)
    have e : l.getD k 0 = l[k] := by simp [List.getD, hk]
    rw [e]
    simpa using this
  · have : l.getD k 0 = 0 := by simp [List.getD, Nat.le_of_not_lt hk]
    rw [this]; omega
theorem soft_bad {l : List Int} {k : Nat} (h : l.getD k 0 < -100000 ∨ 100000 < l.getD k 0) : softOk l = false := by
  cases hs : softOk l with
  | false => rfl
  | true => have := soft_at hs k; omega
theorem ret_bool {a b : Bool} (h : a = b) : Ending.returned (.bool a) = .returned (.bool b) := by rw [h]

/-- What coded bits score. -/
def scoreTo (cs l : List Int) : Nat → Int
  | 0 => 0
  | k + 1 => scoreTo cs l k + sgn (cs.getD k 0) (l.getD k 0)

theorem scoreTo_bd (cs l : List Int) (h : ∀ k, -100000 ≤ l.getD k 0 ∧ l.getD k 0 ≤ 100000) : ∀ k : Nat, -(100000 * (k : Int)) ≤ scoreTo cs l k ∧ scoreTo cs l k ≤ 100000 * (k : Int)
  | 0 => by simp [scoreTo]
  | k + 1 => by
    have := scoreTo_bd cs l h k
    have := h k
    unfold scoreTo sgn
    split <;> omega

end Go.Proofs.YtdndeegpbjlibadGreatDoor

namespace Go.Proofs.YtdndeegpbjlibadGreatDoor
open Go.ChangeShapes Go.WideShapes Go.ChangeAt Go.RowKit

/-- The bit at a place, 0 outside. -/
def bitI (zs : List Int) (j : Int) : Int := if j < 0 then 0 else zs.getD j.toNat 0

theorem bitI_bd {zs : List Int} (h : Bits zs) (j : Int) : 0 ≤ bitI zs j ∧ bitI zs j ≤ 1 := by
  unfold bitI
  split
  · omega
  · exact h _

/-- The three coded bits of the place i. -/
def trip (zs : List Int) (i : Nat) : List Int :=
  [(bitI zs i + bitI zs (i - 1) + bitI zs (i - 2) + bitI zs (i - 3) + bitI zs (i - 6)) % 2, (bitI zs i + bitI zs (i - 2) + bitI zs (i - 3) + bitI zs (i - 5) + bitI zs (i - 6)) % 2, (bitI zs i + bitI zs (i - 1) + bitI zs (i - 2) + bitI zs (i - 4) + bitI zs (i - 6)) % 2]
def codedTo (zs : List Int) : Nat → List Int
  | 0 => []
  | i + 1 => codedTo zs i ++ trip zs i
theorem codedTo_length (zs : List Int) : ∀ i, (codedTo zs i).length = 3 * i
  | 0 => rfl
  | i + 1 => by rw [codedTo, List.length_append, codedTo_length zs i]; simp [trip]; omega

theorem codedTo_succ (zs : List Int) (i : Nat) : codedTo zs (i + 1) = codedTo zs i ++ trip zs i := rfl

def arrV (zs : List Int) (i k : Nat) : List Int := (List.range 7).map fun j => if j < k then bitI zs ((i : Int) - (j : Int)) else 0
theorem arrV_length (zs : List Int) (i k : Nat) : (arrV zs i k).length = 7 := by simp [arrV]
theorem arrV_at (zs : List Int) (i j : Nat) (h : j < 7) : (arrV zs i 7).getD j 0 = bitI zs ((i : Int) - (j : Int)) := by simp [arrV, List.getD, h]
theorem arrV_set (zs : List Int) (i k : Nat) : (arrV zs i k).set k (bitI zs ((i : Int) - (k : Int))) = arrV zs i (k + 1) := by
  refine List.ext_getElem (by simp [arrV]) fun j h1 h2 => ?_
  rw [List.getElem_set]
  split
  · rename_i e
    subst e
    simp [arrV]
  · rename_i e
    simp only [arrV, List.getElem_map, List.getElem_range]
    by_cases hj : j < k
    · rw [if_pos hj, if_pos (by omega)]
    · rw [if_neg hj, if_neg (by omega)]

theorem arr_cell {w : World} {g : Nat} {L : List Int} {T : TypeId} (hg : w.heap[g]? = some (.cells (L.map (Value.int .u8)).toArray T (0, 0))) {j : Nat} (h : j < L.length) : w.cell? ⟨g, j, none⟩ = some (.int .u8 (L.getD j 0)) := by
  rw [cell_of_row w g j _ T (0, 0) hg]
  simp [List.getD, h]
theorem arr_set {w : World} {g : Nat} {L : List Int} {T : TypeId} (hg : w.heap[g]? = some (.cells (L.map (Value.int .u8)).toArray T (0, 0))) (k : Nat) (x : Int) : (w.setCell ⟨g, k, none⟩ (.int .u8 x)).heap[g]? = some (.cells ((L.set k x).map (Value.int .u8)).toArray T (0, 0)) := by
  rw [heap_setCell_same w g k _ T _ hg, List.map_set]
  simp

theorem trip_eq (zs : List Int) (i : Nat) : trip zs i = [(bitI zs ((i : Int) - ((0 : Nat) : Int)) + bitI zs ((i : Int) - ((1 : Nat) : Int)) + bitI zs ((i : Int) - ((2 : Nat) : Int)) + bitI zs ((i : Int) - ((3 : Nat) : Int)) + bitI zs ((i : Int) - ((6 : Nat) : Int))) % 2,
    (bitI zs ((i : Int) - ((0 : Nat) : Int)) + bitI zs ((i : Int) - ((2 : Nat) : Int)) + bitI zs ((i : Int) - ((3 : Nat) : Int)) + bitI zs ((i : Int) - ((5 : Nat) : Int)) + bitI zs ((i : Int) - ((6 : Nat) : Int))) % 2,
    (bitI zs ((i : Int) - ((0 : Nat) : Int)) + bitI zs ((i : Int) - ((1 : Nat) : Int)) + bitI zs ((i : Int) - ((2 : Nat) : Int)) + bitI zs ((i : Int) - ((4 : Nat) : Int)) + bitI zs ((i : Int) - ((6 : Nat) : Int))) % 2] := by
  unfold trip
  simp

/-- 'append(out, x, y, z)'. -/
theorem wpList_push3 {ops : Array Oper} {rest : List Oper} {o : Oper} {a : Act} {Q : Exit → Act → World → Prop} {w0 : World} {v : Value} {L : List Int} (B : Nat) (w00 : World) (x y z : Int) (hown : Own w0 B v L) (hgd : o.guard = none) (s t : Operand)
    (ho : o.op = .call { callee := .builtin .append, args := #[s, t], argTypes := #[22, 22] }) (hs : a.eval s = v)
    (hx : a.eval t = .slice (some ⟨w0.heap.size, 0, none⟩) 3 3) (hlen : L.length < 70368744177664) (hbel : Below B w00 w0) (hB : B ≤ w0.heap.size)
    (h : ∀ v' w', Own w' B v' (L ++ [x, y, z]) → Below B w00 w' → wpList Tryz.prog ops Q rest (a.put o.dst v') w') : wpList Tryz.prog ops Q (o :: rest) a (w0.alloc (.cells #[.int .u8 x, .int .u8 y, .int .u8 z] 5)) := by
  obtain ⟨i0, hi, hz0, hz1, hz2⟩ := info_parts Tryz.info5
  refine wpList_append_own _ hgd s t 22 ho B 5 i0 (.int .u8 0) 1 1 Tryz.underlying22 hi hz0 hz1 hz2 rfl (by decide) v _ _ hs (World.ownsRow.alloc hown _) ⟨w0.heap.size, 0, none⟩ 3 3 [.int .u8 x, .int .u8 y, .int .u8 z] hx rfl ?_ ?_ ?_ ?_ ?_ ?_
  · intro j u hj
    have e1 : (⟨w0.heap.size, 0, none⟩ : Addr).add j = ⟨w0.heap.size, j, none⟩ := by unfold Addr.add; split <;> simp_all
    rw [e1, cell_of_row _ _ _ _ _ _ (heap_alloc_new w0 _), ← hj]
    simp
  · intro u hu; simp at hu; rcases hu with rfl | rfl | rfl <;> rfl
  · unfold maxLen; omega
  · omega
  · simp; omega
  · intro v' w' h1 h2 _
    refine h v' w' ?_ ((hbel.alloc hB _).grown h2 (by simp; omega) (own_blocks hown))
    unfold Own
    rw [List.length_append, List.map_append]
    exact h1

end Go.Proofs.YtdndeegpbjlibadGreatDoor

namespace Go.Proofs.YtdndeegpbjlibadGreatDoor
open Go.RowKit

/-- The state ahead of the place i. -/
def stI (zs : List Int) (i : Nat) : Int := bitI zs (i - 1) * 32 + bitI zs (i - 2) * 16 + bitI zs (i - 3) * 8 + bitI zs (i - 4) * 4 + bitI zs (i - 5) * 2 + bitI zs (i - 6)

theorem stI_zero (zs : List Int) : stI zs 0 = 0 := by simp [stI, bitI]

theorem stI_next {zs : List Int} (h : Bits zs) (i : Nat) : nxt (stI zs i) (bitI zs i) = stI zs (i + 1) := by
  have e : ∀ k : Nat, bitI zs (((i + 1 : Nat) : Int) - ((k + 1 : Nat) : Int)) = bitI zs ((i : Int) - (k : Int)) := fun k => by congr 1; omega
  have e0 := e 0
  have e1 := e 1
  have e2 := e 2
  have e3 := e 3
  have e4 := e 4
  have e5 := e 5
  simp at e0 e1 e2 e3 e4 e5
  unfold nxt stI
  have b1 := bitI_bd h ((i : Int) - 1)
  have b2 := bitI_bd h ((i : Int) - 2)
  have b3 := bitI_bd h ((i : Int) - 3)
  have b4 := bitI_bd h ((i : Int) - 4)
  have b5 := bitI_bd h ((i : Int) - 5)
  have b6 := bitI_bd h ((i : Int) - 6)
  rw [show ((i + 1 : Nat) : Int) - 1 = (i : Int) from by omega, show ((i + 1 : Nat) : Int) - 2 = (i : Int) - 1 from by omega, show ((i + 1 : Nat) : Int) - 3 = (i : Int) - 2 from by omega, show ((i + 1 : Nat) : Int) - 4 = (i : Int) - 3 from by omega, show ((i + 1 : Nat) : Int) - 5 = (i : Int) - 4 from by omega, show ((i + 1 : Nat) : Int) - 6 = (i : Int) - 5 from by omega]
  omega

theorem st_parts (a b c d e f : Int) (ha : 0 ≤ a ∧ a ≤ 1) (hb : 0 ≤ b ∧ b ≤ 1) (hc : 0 ≤ c ∧ c ≤ 1) (hd : 0 ≤ d ∧ d ≤ 1) (he : 0 ≤ e ∧ e ≤ 1) (hf : 0 ≤ f ∧ f ≤ 1) :
    (a * 32 + b * 16 + c * 8 + d * 4 + e * 2 + f) / 32 % 2 = a ∧ (a * 32 + b * 16 + c * 8 + d * 4 + e * 2 + f) / 16 % 2 = b ∧ (a * 32 + b * 16 + c * 8 + d * 4 + e * 2 + f) / 8 % 2 = c ∧
    (a * 32 + b * 16 + c * 8 + d * 4 + e * 2 + f) / 4 % 2 = d ∧ (a * 32 + b * 16 + c * 8 + d * 4 + e * 2 + f) / 2 % 2 = e ∧ (a * 32 + b * 16 + c * 8 + d * 4 + e * 2 + f) % 2 = f := by omega

theorem trip_out {zs : List Int} (h : Bits zs) (i : Nat) : trip zs i = [out0 (stI zs i) (bitI zs i), out1 (stI zs i) (bitI zs i), out2 (stI zs i) (bitI zs i)] := by
  obtain ⟨p1, p2, p3, p4, p5, p6⟩ := st_parts _ _ _ _ _ _ (bitI_bd h ((i : Int) - 1)) (bitI_bd h ((i : Int) - 2)) (bitI_bd h ((i : Int) - 3)) (bitI_bd h ((i : Int) - 4)) (bitI_bd h ((i : Int) - 5)) (bitI_bd h ((i : Int) - 6))
  unfold trip out0 out1 out2 stI
  rw [p1, p2, p3, p4, p5, p6]

theorem codedTo_at (zs : List Int) : ∀ (K i r : Nat), i < K → r < 3 → (codedTo zs K).getD (3 * i + r) 0 = (trip zs i).getD r 0
  | 0, i, r, h, _ => by omega
  | K + 1, i, r, h, hr => by
    rw [codedTo]
    by_cases hi : i < K
    · rw [← codedTo_at zs K i r hi hr]
      have hl := codedTo_length zs K
      simp only [List.getD, List.getElem?_append_left (show 3 * i + r < (codedTo zs K).length by omega)]
    · obtain rfl : i = K := by omega
      have hl := codedTo_length zs i
      simp only [List.getD, List.getElem?_append_right (show (codedTo zs i).length ≤ 3 * i + r by omega)]
      rw [show 3 * i + r - (codedTo zs i).length = r from by omega]

/-- What the first k bits score. -/
def gainTo (soft zs : List Int) : Nat → Int
  | 0 => 0
  | k + 1 => gainTo soft zs k + gain soft k (stI zs k) (bitI zs k)

theorem score_gain {zs : List Int} (h : Bits zs) (soft : List Int) (K : Nat) : ∀ k, k ≤ K → scoreTo (codedTo zs K) soft (3 * k) = gainTo soft zs k
  | 0, _ => rfl
  | k + 1, hk => by
    have ih := score_gain h soft K k (by omega)
    have c0 := codedTo_at zs K k 0 (by omega) (by omega)
    have c1 := codedTo_at zs K k 1 (by omega) (by omega)
    have c2 := codedTo_at zs K k 2 (by omega) (by omega)
    rw [trip_out h k] at c0 c1 c2
    rw [show 3 * (k + 1) = 3 * k + 1 + 1 + 1 from by omega, scoreTo, scoreTo, scoreTo, ih, gainTo]
    rw [show 3 * k + 1 + 1 = 3 * k + 2 from by omega, c1, c2]
    rw [Nat.add_zero] at c0
    rw [c0]
    unfold gain
    show _ + sgn (out0 (stI zs k) (bitI zs k)) _ + sgn (out1 (stI zs k) (bitI zs k)) _ + sgn (out2 (stI zs k) (bitI zs k)) _ = _
    omega

theorem sc_gain {zs : List Int} (h : Bits zs) (soft : List Int) : ∀ (c : List Int) (i : Nat), (∀ j, j < c.length → c.getD j 0 = bitI zs ((i + j : Nat) : Int)) → sc soft i (stI zs i) c = gainTo soft zs (i + c.length) - gainTo soft zs i
  | [], i, _ => by simp [sc]
  | x :: c, i, hc => by
    have h0 : x = bitI zs i := by have := hc 0 (by simp); simpa using this
    have ih := sc_gain h soft c (i + 1) (fun j hj => by
      have := hc (j + 1) (by simpa using hj)
      rw [show i + 1 + j = i + (j + 1) from by omega, ← this]
      simp)
    rw [sc, h0, stI_next h i, ih, List.length_cons, show i + 1 + c.length = i + (c.length + 1) from by omega]
    show _ = gainTo soft zs (i + (c.length + 1)) - gainTo soft zs i
    rw [show gainTo soft zs (i + 1) = gainTo soft zs i + gain soft i (stI zs i) (bitI zs i) from rfl]
    omega

/-- What the document's coded bits score is what the way scores. -/
theorem score_sc {zs : List Int} (h : Bits zs) (soft : List Int) : scoreTo (codedTo zs (zs.length + 6)) soft (3 * (zs.length + 6)) = sc soft 0 0 (zs ++ zeros6) := by
  have hs := sc_gain h soft (zs ++ zeros6) 0 (fun j hj => by
    rw [Nat.zero_add]
    unfold bitI
    rw [if_neg (by omega), Int.toNat_natCast]
    by_cases hj' : j < zs.length
    · simp only [List.getD, List.getElem?_append_left hj']
    · simp only [List.getD, List.getElem?_append_right (Nat.le_of_not_lt hj'), List.getElem?_eq_none (Nat.le_of_not_lt hj')]
      have hj6 : j - zs.length < 6 := by simp [zeros6] at hj; omega
      match j - zs.length, hj6 with
      | 0, _ | 1, _ | 2, _ | 3, _ | 4, _ | 5, _ => rfl)
  rw [stI_zero] at hs
  rw [score_gain h soft (zs.length + 6) (zs.length + 6) (Nat.le_refl _), hs]
  simp [zeros6, gainTo]

end Go.Proofs.YtdndeegpbjlibadGreatDoor

namespace Go.Proofs.YtdndeegpbjlibadGreatDoor

/-! THE CODE AS THE PROGRAM COUNTS IT: a window whose lowest place is the bit itself, states whose lowest place is the newest bit; words of three coded bits. -/

/-- The document's state of a state of the program. -/
def rev6 (S : Int) : Int := S % 2 * 32 + S / 2 % 2 * 16 + S / 4 % 2 * 8 + S / 8 % 2 * 4 + S / 16 % 2 * 2 + S / 32 % 2
/-- The word of a window. -/
def wordI (W : Int) : Int :=
  (W % 2 + W / 2 % 2 + W / 4 % 2 + W / 8 % 2 + W / 64 % 2) % 2 * 4 + (W % 2 + W / 4 % 2 + W / 8 % 2 + W / 32 % 2 + W / 64 % 2) % 2 * 2 + (W % 2 + W / 2 % 2 + W / 4 % 2 + W / 16 % 2 + W / 64 % 2) % 2

theorem wordI_bd (W : Int) : 0 ≤ wordI W ∧ wordI W < 8 := by unfold wordI; omega
theorem wordI_mod (W V : Int) (h : W % 128 = V % 128) : wordI W = wordI V := by
  have h0 : W % 2 = V % 2 := by omega
  have h1 : W / 2 % 2 = V / 2 % 2 := by omega
  have h2 : W / 4 % 2 = V / 4 % 2 := by omega
  have h3 : W / 8 % 2 = V / 8 % 2 := by omega
  have h4 : W / 16 % 2 = V / 16 % 2 := by omega
  have h5 : W / 32 % 2 = V / 32 % 2 := by omega
  have h6 : W / 64 % 2 = V / 64 % 2 := by omega
  unfold wordI
  rw [h0, h1, h2, h3, h4, h5, h6]

theorem rev_all : ∀ S : Fin 64, ∀ x : Fin 2,
    (nxt (rev6 (S.val : Int)) (x.val : Int) = rev6 ((2 * (S.val : Int) + (x.val : Int)) % 64) ∧
    out0 (rev6 (S.val : Int)) (x.val : Int) = wordI (2 * (S.val : Int) + (x.val : Int)) / 4 % 2 ∧
    out1 (rev6 (S.val : Int)) (x.val : Int) = wordI (2 * (S.val : Int) + (x.val : Int)) / 2 % 2 ∧
    out2 (rev6 (S.val : Int)) (x.val : Int) = wordI (2 * (S.val : Int) + (x.val : Int)) % 2 ∧
    wordI (2 * (S.val : Int) + 1) = 7 - wordI (2 * (S.val : Int))) := by decide +kernel

theorem rev_at (S : Nat) (hS : S < 64) (x : Nat) (hx : x < 2) :
    nxt (rev6 (S : Int)) (x : Int) = rev6 ((2 * (S : Int) + (x : Int)) % 64) ∧
    out0 (rev6 (S : Int)) (x : Int) = wordI (2 * (S : Int) + (x : Int)) / 4 % 2 ∧
    out1 (rev6 (S : Int)) (x : Int) = wordI (2 * (S : Int) + (x : Int)) / 2 % 2 ∧
    out2 (rev6 (S : Int)) (x : Int) = wordI (2 * (S : Int) + (x : Int)) % 2 ∧
    wordI (2 * (S : Int) + 1) = 7 - wordI (2 * (S : Int)) := rev_all ⟨S, hS⟩ ⟨x, hx⟩

/-- What a word scores of what is heard at the place i. -/
def gw (soft : List Int) (i : Nat) (w : Int) : Int :=
  sgn (w / 4 % 2) (soft.getD (3 * i) 0) + sgn (w / 2 % 2) (soft.getD (3 * i + 1) 0) + sgn (w % 2) (soft.getD (3 * i + 2) 0)

theorem gw_gain (soft : List Int) (i S x : Nat) (hS : S < 64) (hx : x < 2) : gw soft i (wordI (2 * (S : Int) + (x : Int))) = gain soft i (rev6 (S : Int)) (x : Int) := by
  obtain ⟨_, h0, h1, h2, _⟩ := rev_at S hS x hx
  unfold gw gain
  rw [h0, h1, h2]

/-- The best from a place and a state on, k places being left; from the place n on only 0 is said. -/
def val (soft : List Int) (n : Nat) : Nat → Nat → Int
  | 0, _ => 0
  | k + 1, S =>
    let i := n + 6 - (k + 1)
    let z := gw soft i (wordI (2 * (S : Int))) + val soft n k (2 * S % 64)
    let o := gw soft i (7 - wordI (2 * (S : Int))) + val soft n k (2 * S % 64 + 1)
    if k < 6 then z else if z < o then o else z
/-- Does only a 1 bring the most, k places being left behind this one? -/
def one (soft : List Int) (n k S : Nat) : Bool :=
  decide (gw soft (n + 6 - (k + 1)) (wordI (2 * (S : Int))) + val soft n k (2 * S % 64) < gw soft (n + 6 - (k + 1)) (7 - wordI (2 * (S : Int))) + val soft n k (2 * S % 64 + 1))

theorem rev_next0 (S : Nat) (hS : S < 64) : nxt (rev6 (S : Int)) 0 = rev6 ((2 * S % 64 : Nat) : Int) := by
  have := (rev_at S hS 0 (by omega)).1
  rw [show ((2 * S % 64 : Nat) : Int) = (2 * (S : Int) + ((0 : Nat) : Int)) % 64 by omega]
  exact this
theorem rev_next1 (S : Nat) (hS : S < 64) : nxt (rev6 (S : Int)) 1 = rev6 ((2 * S % 64 + 1 : Nat) : Int) := by
  have := (rev_at S hS 1 (by omega)).1
  rw [show ((2 * S % 64 + 1 : Nat) : Int) = (2 * (S : Int) + ((1 : Nat) : Int)) % 64 by omega]
  exact this
theorem gw_gain0 (soft : List Int) (i S : Nat) (hS : S < 64) : gw soft i (wordI (2 * (S : Int))) = gain soft i (rev6 (S : Int)) 0 := by
  have := gw_gain soft i S 0 hS (by omega)
  simpa using this
theorem gw_gain1 (soft : List Int) (i S : Nat) (hS : S < 64) : gw soft i (7 - wordI (2 * (S : Int))) = gain soft i (rev6 (S : Int)) 1 := by
  have h := gw_gain soft i S 1 hS (by omega)
  have h' := (rev_at S hS 1 (by omega)).2.2.2.2
  rw [← h']
  simpa using h

theorem val_tail (soft : List Int) (n : Nat) : ∀ k, k ≤ 6 → ∀ S, S < 64 → val soft n k S = sc soft (n + 6 - k) (rev6 (S : Int)) (List.replicate k 0)
  | 0, _, _, _ => rfl
  | k + 1, hk, S, hS => by
    rw [val]
    simp only [if_pos (show k < 6 by omega)]
    rw [gw_gain0 soft _ S hS, val_tail soft n k (by omega) _ (Nat.mod_lt _ (by omega)), List.replicate_succ, sc, rev_next0 S hS, show n + 6 - (k + 1) + 1 = n + 6 - k by omega]

theorem val_top (soft : List Int) (n : Nat) : ∀ r, r ≤ n → ∀ S, S < 64 → val soft n (r + 6) S = top soft r (n - r) (rev6 (S : Int))
  | 0, _, S, hS => by
    rw [Nat.zero_add, val_tail soft n 6 (by omega) S hS]
    show _ = sc soft (n - 0) _ zeros6
    rw [show n + 6 - 6 = n - 0 by omega]
    rfl
  | r + 1, hr, S, hS => by
    rw [show r + 1 + 6 = (r + 6) + 1 by omega, val]
    simp only [if_neg (show ¬ r + 6 < 6 by omega)]
    rw [gw_gain0 soft _ S hS, gw_gain1 soft _ S hS, val_top soft n r (by omega) _ (Nat.mod_lt _ (by omega)), val_top soft n r (by omega) _ (by omega), show n + 6 - (r + 6 + 1) = n - (r + 1) by omega]
    rw [top, rev_next0 S hS, rev_next1 S hS, show n - (r + 1) + 1 = n - r by omega]
    split <;> omega

theorem one_way (soft : List Int) (n r S : Nat) (hr : r < n) (hS : S < 64) :
    way soft (r + 1) (n - (r + 1)) (rev6 (S : Int)) = if one soft n (r + 6) S then 1 :: way soft r (n - r) (rev6 ((2 * S % 64 + 1 : Nat) : Int)) else 0 :: way soft r (n - r) (rev6 ((2 * S % 64 : Nat) : Int)) := by
  rw [way]
  unfold one
  rw [gw_gain0 soft _ S hS, gw_gain1 soft _ S hS, val_top soft n r (by omega) _ (Nat.mod_lt _ (by omega)), val_top soft n r (by omega) _ (by omega), show n + 6 - (r + 6 + 1) = n - (r + 1) by omega, rev_next0 S hS, rev_next1 S hS, show n - (r + 1) + 1 = n - r by omega]
  simp only [decide_eq_true_eq]

/-- The marks of a place: a place a state. -/
def marks (soft : List Int) (n k : Nat) : Nat → Nat
  | 0 => 0
  | S + 1 => marks soft n k S + if one soft n k S then 2 ^ S else 0
theorem marks_lt (soft : List Int) (n k : Nat) : ∀ S, marks soft n k S < 2 ^ S
  | 0 => by simp [marks]
  | S + 1 => by
    have := marks_lt soft n k S
    have h2 : 2 ^ (S + 1) = 2 ^ S + 2 ^ S := by rw [Nat.pow_succ]; omega
    unfold marks
    split <;> omega
theorem marks_or (soft : List Int) (n k S : Nat) : marks soft n k S ||| 2 ^ S = marks soft n k S + 2 ^ S := by
  have h := marks_lt soft n k S
  have := Nat.two_pow_add_eq_or_of_lt h 1
  rw [Nat.mul_one] at this
  rw [Nat.or_comm, ← this, Nat.add_comm]
theorem marks_above (soft : List Int) (n k S : Nat) : ∀ d, marks soft n k (S + d) / 2 ^ S % 2 = (marks soft n k S + if d = 0 then 0 else if one soft n k S then 2 ^ S else 0) / 2 ^ S % 2
  | 0 => by simp
  | 1 => by simp [marks]
  | d + 2 => by
    have ih := marks_above soft n k S (d + 1)
    rw [show S + (d + 2) = (S + (d + 1)) + 1 by omega, marks]
    split
    · have e : 2 ^ (S + (d + 1)) = 2 ^ S * (2 * 2 ^ d) := by rw [Nat.pow_add, Nat.pow_succ, Nat.mul_comm (2 ^ d) 2]
      rw [e, Nat.add_mul_div_left _ _ (Nat.two_pow_pos S), Nat.add_mul_mod_self_left, ih]
      simp
    · rw [Nat.add_zero, ih]
      simp
theorem marks_bit (soft : List Int) (n k S : Nat) (hS : S < 64) : marks soft n k 64 / 2 ^ S % 2 = if one soft n k S then 1 else 0 := by
  obtain ⟨d, hd⟩ : ∃ d, 64 = S + (d + 1) := ⟨63 - S, by omega⟩
  have := marks_above soft n k S (d + 1)
  rw [← hd] at this
  rw [this]
  have hl := marks_lt soft n k S
  simp only [Nat.succ_ne_zero, if_false]
  split
  · rw [Nat.add_div_right _ (Nat.two_pow_pos S), Nat.div_eq_of_lt hl]
  · rw [Nat.add_zero, Nat.div_eq_of_lt hl]
end Go.Proofs.YtdndeegpbjlibadGreatDoor

namespace Go.Proofs.YtdndeegpbjlibadGreatDoor

theorem map_set_at {β : Type} (f g : Nat → β) (N S : Nat) (h : ∀ u, u ≠ S → f u = g u) (x : β) (hx : x = g S) : ((List.range N).map f).set S x = (List.range N).map g := by
  refine List.ext_getElem (by simp) fun j h1 h2 => ?_
  rw [List.getElem_set]
  simp only [List.getElem_map, List.getElem_range]
  by_cases hj : S = j
  · subst hj; rw [if_pos rfl, hx]
  · rw [if_neg hj, h j (fun e => hj e.symm)]

def bestL (l : List Int) (n k : Nat) : List Int := (List.range 64).map (val l n k)
theorem bestL_length (l : List Int) (n k : Nat) : (bestL l n k).length = 64 := by simp [bestL]
theorem bestL_at (l : List Int) (n k S : Nat) (h : S < 64) : (bestL l n k).getD S 0 = val l n k S := by simp [bestL, List.getD, h]
theorem bestL_zero (l : List Int) (n : Nat) : bestL l n 0 = List.replicate 64 0 := by
  refine List.ext_getElem (by simp [bestL]) fun j h1 h2 => ?_
  rw [List.getElem_replicate]
  simp [bestL, val]

def hereS (l : List Int) (n k S : Nat) : List Int := (List.range 64).map fun u => if u < S then val l n (k + 1) u else 0
theorem hereS_length (l : List Int) (n k S : Nat) : (hereS l n k S).length = 64 := by simp [hereS]
theorem hereS_zero (l : List Int) (n k : Nat) : hereS l n k 0 = List.replicate 64 0 := by
  refine List.ext_getElem (by simp [hereS]) fun j h1 h2 => ?_
  rw [List.getElem_replicate]
  simp [hereS]
theorem hereS_all (l : List Int) (n k : Nat) : hereS l n k 64 = bestL l n (k + 1) := by
  refine List.ext_getElem (by simp [hereS, bestL]) fun j h1 h2 => ?_
  have : j < 64 := by simpa [hereS] using h1
  simp [hereS, bestL, this]
theorem hereS_set (l : List Int) (n k S : Nat) (x : Int) (hx : x = val l n (k + 1) S) : (hereS l n k S).set S x = hereS l n k (S + 1) := by
  refine map_set_at _ _ 64 S (fun u hu => ?_) x (by rw [if_pos (by omega), hx])
  by_cases h : u < S
  · rw [if_pos h, if_pos (by omega)]
  · rw [if_neg h, if_neg (by omega)]

def onesK (l : List Int) (n m : Nat) : List Int := (List.range n).map fun j => if m ≤ j then (marks l n (n + 5 - j) 64 : Int) else 0
theorem onesK_length (l : List Int) (n m : Nat) : (onesK l n m).length = n := by simp [onesK]
theorem onesK_first (l : List Int) (n m : Nat) (h : n ≤ m) : onesK l n m = List.replicate n 0 := by
  refine List.ext_getElem (by simp [onesK]) fun j h1 h2 => ?_
  have : j < n := by simpa [onesK] using h1
  simp [onesK, show ¬ m ≤ j by omega]
theorem onesK_at (l : List Int) (n j : Nat) (h : j < n) : (onesK l n 0).getD j 0 = (marks l n (n + 5 - j) 64 : Int) := by simp [onesK, List.getD, h]
/-- The marks, those of the place i being made. -/
def onesS (l : List Int) (n i S : Nat) : List Int := (onesK l n (i + 1)).set i (marks l n (n + 5 - i) S : Int)
theorem onesS_length (l : List Int) (n i S : Nat) : (onesS l n i S).length = n := by simp [onesS, onesK_length]
theorem onesS_zero (l : List Int) (n i : Nat) : onesS l n i 0 = onesK l n (i + 1) := by
  refine List.ext_getElem (by simp [onesS]) fun j h1 h2 => ?_
  simp only [onesS, List.getElem_set, onesK, List.getElem_map, List.getElem_range]
  split
  · rename_i e; subst e; rw [if_neg (by omega)]; rfl
  · rfl
theorem onesS_all (l : List Int) (n i : Nat) : onesS l n i 64 = onesK l n i := by
  refine map_set_at _ _ n i (fun u hu => ?_) _ (by rw [if_pos (Nat.le_refl _)])
  by_cases h : i ≤ u
  · rw [if_pos h, if_pos (by omega)]
  · rw [if_neg h, if_neg (by omega)]
theorem onesS_late (l : List Int) (n i S S' : Nat) (h : n ≤ i) : onesS l n i S = onesS l n i S' := by
  unfold onesS
  rw [List.set_eq_of_length_le (by rw [onesK_length]; exact h), List.set_eq_of_length_le (by rw [onesK_length]; exact h)]
theorem onesS_at (l : List Int) (n i S : Nat) (h : i < n) : (onesS l n i S).getD i 0 = (marks l n (n + 5 - i) S : Int) := by
  simp [onesS, List.getD, onesK_length, h]
theorem onesS_set (l : List Int) (n i S : Nat) (x : Int) (hx : x = (marks l n (n + 5 - i) (S + 1) : Int)) : (onesS l n i S).set i x = onesS l n i (S + 1) := by
  unfold onesS
  rw [List.set_set, hx]
theorem onesS_same (l : List Int) (n i S : Nat) (h : one l n (n + 5 - i) S = false) : onesS l n i (S + 1) = onesS l n i S := by
  unfold onesS
  rw [marks, h]
  simp

theorem gw_bd (l : List Int) (h : ∀ k, -100000 ≤ l.getD k 0 ∧ l.getD k 0 ≤ 100000) (i : Nat) (w : Int) : -300000 ≤ gw l i w ∧ gw l i w ≤ 300000 := by
  have h0 := h (3 * i)
  have h1 := h (3 * i + 1)
  have h2 := h (3 * i + 2)
  unfold gw sgn
  split <;> split <;> split <;> omega
theorem val_bd (l : List Int) (n : Nat) (h : ∀ k, -100000 ≤ l.getD k 0 ∧ l.getD k 0 ≤ 100000) : ∀ (k S : Nat), -(300000 * (k : Int)) ≤ val l n k S ∧ val l n k S ≤ 300000 * (k : Int)
  | 0, S => by simp [val]
  | k + 1, S => by
    have a := val_bd l n h k (2 * S % 64)
    have b := val_bd l n h k (2 * S % 64 + 1)
    have c := gw_bd l h (n + 6 - (k + 1)) (wordI (2 * (S : Int)))
    have d := gw_bd l h (n + 6 - (k + 1)) (7 - wordI (2 * (S : Int)))
    rw [val]
    split
    · omega
    · split <;> omega
/-- One step, at the place i. -/
theorem val_step (l : List Int) (n i k S : Nat) (hi : i + (k + 1) = n + 6) :
    val l n (k + 1) S = if k < 6 then gw l i (wordI (2 * (S : Int))) + val l n k (2 * S % 64) else
      if gw l i (wordI (2 * (S : Int))) + val l n k (2 * S % 64) < gw l i (7 - wordI (2 * (S : Int))) + val l n k (2 * S % 64 + 1) then gw l i (7 - wordI (2 * (S : Int))) + val l n k (2 * S % 64 + 1) else gw l i (wordI (2 * (S : Int))) + val l n k (2 * S % 64) := by
  rw [val, show n + 6 - (k + 1) = i by omega]
theorem one_step (l : List Int) (n i k S : Nat) (hi : i + (k + 1) = n + 6) : one l n k S = decide (gw l i (wordI (2 * (S : Int))) + val l n k (2 * S % 64) < gw l i (7 - wordI (2 * (S : Int))) + val l n k (2 * S % 64 + 1)) := by
  unfold one
  rw [show n + 6 - (k + 1) = i by omega]
end Go.Proofs.YtdndeegpbjlibadGreatDoor
