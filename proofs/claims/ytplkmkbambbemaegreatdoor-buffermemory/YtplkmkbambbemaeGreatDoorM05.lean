import Derived.Test.YtplkmkbambbemaeGreatDoorM04
import Derived.Test.YtplkmkbambbemaeGreatDoorM02
import Derived.Shelf.Abstract
import Derived.Deep.CutRange
import Derived.Test.YtplkmkbambbemaeGreatDoorM01
import Derived.Test.YtplkmkbambbemaeGreatDoorM03
namespace Go.Proofs.YtplkmkbambbemaeGreatDoor
open Go.ChangeShapes Go.WideShapes Go.ChangeAt Go.RowKit Go.Shelf
/-- Points of one's own. -/
def cellsP (ps : List (Int × Int)) : List Value := ps.flatMap fun p => [.int .i64 p.1, .int .i64 p.2]
def OwnP (w : World) (B : Nat) (v : Value) (ps : List (Int × Int)) : Prop := w.ownsRow B 44 2 v ps.length (cellsP ps)
theorem cellsP_at (ps : List (Int × Int)) : ∀ i, i < ps.length → (cellsP ps)[i * 2]? = some (.int .i64 (ps.getD i (0, 0)).1) ∧ (cellsP ps)[i * 2 + 1]? = some (.int .i64 (ps.getD i (0, 0)).2) := by
  induction ps with
  | nil => intro i hi; simp at hi
  | cons p ps ih =>
    intro i hi
    have e : cellsP (p :: ps) = .int .i64 p.1 :: .int .i64 p.2 :: cellsP ps := rfl
    cases i with
    | zero => rw [e]; simp [List.getD]
    | succ i =>
      have := ih i (by simpa using hi)
      rw [e, show (i + 1) * 2 = i * 2 + 1 + 1 by omega, List.getElem?_cons_succ, List.getElem?_cons_succ, show i * 2 + 1 + 1 + 1 = (i * 2 + 1) + 1 + 1 by omega, List.getElem?_cons_succ, List.getElem?_cons_succ]
      simpa [List.getD] using this
theorem OwnP.pts {w : World} {B n c : Nat} {a : Option Addr} {ps : List (Int × Int)} (h : OwnP w B (.slice a n c) ps) : Pts w a ps := by
  intro hne
  rcases h.2 with ⟨_, h0⟩ | ⟨g, cap, cur, h', _⟩
  · exact absurd (List.eq_nil_of_length_eq_zero h0) hne
  · simp only [Value.slice.injEq] at h'
    obtain ⟨rfl, rfl, rfl⟩ := h'
    refine ⟨g, 0, rfl, fun i hi => ?_⟩
    have := cellsP_at ps i hi
    unfold OwnP at h
    rw [Nat.zero_add, h.cellAt _ (by omega), h.cellAt _ (by omega)]
    exact this
theorem OwnP.shape {w : World} {B : Nat} {v : Value} {ps : List (Int × Int)} (h : OwnP w B v ps) : ∃ a c, v = .slice a ps.length c ∧ ps.length ≤ c ∧ c ≤ maxLen := by
  rcases h.2 with ⟨rfl, h0⟩ | ⟨g, cap, cur, rfl, _, _, h1, h2, _⟩
  · exact ⟨none, 0, by rw [h0], by omega, by unfold maxLen; omega⟩
  · exact ⟨_, cap, rfl, h1, h2⟩
def ptDeps : Nat → List Nat
  | 3 => [1, 2]
  | 4 => [3]
  | 5 => [4]
  | 8 => [6, 7]
  | 9 => [8]
  | 10 => [9]
  | 11 => [5, 10]
  | 12 => [11]
  | 13 => [0, 12]
  | 14 => [13]
  | _ => []
def ClosP (L : Nat → Bool) : Prop := ∀ i j, j ∈ ptDeps i → L i = true → L j = true
theorem ClosP.upd {L : Nat → Bool} (h : ClosP L) {i : Nat} (hi : ∀ j ∈ ptDeps i, L j = true) : ClosP (upd L i) := by
  intro p j hj hp
  by_cases hji : j = i
  · rw [hji]; exact upd_same L i
  · rw [upd_other L hji]
    by_cases hpi : p = i
    · subst hpi; exact hi j hj
    · rw [upd_other L hpi] at hp
      exact h p j hj hp
structure PtI (wr : World) (a0 : Act) (pv : Nat → Option Value) (x y : Int) (L : Nat → Bool) (a : Act) (w : World) : Prop where
  size : a.tmps.size = a0.tmps.size
  defers : a.defers = a0.defers
  below : Below wr.heap.size wr w
  frame : ∀ s : Nat, s < 46 ∨ 59 < s → a.eval (.tmp s) = a0.eval (.tmp s)
  pure : ∀ i v, pv i = some v → L i = true → a.eval (.tmp (46 + i)) = v
  clos : ClosP L
  last : L 12 = true → ∃ g, wr.heap.size ≤ g ∧ a.eval (.tmp 58) = .slice (some ⟨g, 0, none⟩) 1 1 ∧ w.cell? ⟨g, 0, none⟩ = some (.int .i64 x) ∧ w.cell? ⟨g, 1, none⟩ = some (.int .i64 y)
  no13 : L 13 = false
structure PtF (wr : World) (a0 : Act) (B : Nat) (v8 : Value) (ps : List (Int × Int)) (p : Int × Int) (v' : Value) (a : Act) (w : World) : Prop where
  size : a.tmps.size = a0.tmps.size
  defers : a.defers = a0.defers
  frame : ∀ s : Nat, s < 46 ∨ 59 < s → s ≠ 8 → a.eval (.tmp s) = a0.eval (.tmp s)
  facts : ∃ w1, OwnP w B v' (ps ++ [p]) ∧ Below wr.heap.size wr w1 ∧ w1.grownBy w v8.ownBlock ∧ (v'.ownBlock = v8.ownBlock ∨ v'.ownBlock = some w1.heap.size)
theorem PtI.step {wr : World} {a0 : Act} {pv : Nat → Option Value} {x y : Int} {L : Nat → Bool} {a : Act} {w w' : World} {i : Nat} {v : Value} (h : PtI wr a0 pv x y L a w) (hi : i ≤ 11) (hN : 60 ≤ a0.tmps.size) (hd : ∀ j ∈ ptDeps i, L j = true) (hg : w.grownBy w' none) (hp : pv i = some v) : PtI wr a0 pv x y (upd L i) (a.put (some (46 + i)) v) w' := by
  refine ⟨by simp [Act.put, h.size], h.defers, h.below.grown hg h.below.size (fun g e => by cases e), fun s hs => ?_, fun j u hj hL => ?_, h.clos.upd hd, fun h12 => ?_, ?_⟩
  · rw [Act.eval_put_ne a _ _ _ (by omega)]
    exact h.frame s hs
  · by_cases hji : j = i
    · subst hji
      rw [Act.eval_put_same a _ _ (by rw [h.size]; omega)]
      rw [hp] at hj
      exact Option.some.inj hj
    · rw [upd_other L hji] at hL
      rw [Act.eval_put_ne a _ _ _ (by omega)]
      exact h.pure j u hj hL
  · rw [upd_other L (by omega)] at h12
    obtain ⟨g, h1, h2, h3, h4⟩ := h.last h12
    refine ⟨g, h1, ?_, cell_grown h3 hg (fun k e => by cases e), cell_grown h4 hg (fun k e => by cases e)⟩
    rw [Act.eval_put_ne a _ _ _ (by omega)]
    exact h2
  · rw [upd_other L (by omega)]
    exact h.no13
end Go.Proofs.YtplkmkbambbemaeGreatDoor
namespace Go.Proofs.YtplkmkbambbemaeGreatDoor
open Go.ChangeShapes Go.WideShapes Go.ChangeAt Go.RowKit
theorem take_ext {xs ys : List Int} {k : Nat} (hl : ys.length = xs.length) (hk : k < xs.length) (h : xs.take k = ys.take k) (e : xs[k]?.getD 0 = ys[k]?.getD 0) : xs.take (k + 1) = ys.take (k + 1) := by
  rw [List.take_add_one, List.take_add_one, h]
  have h1 : xs[k]? = some xs[k] := List.getElem?_eq_getElem hk
  have h2 : ys[k]? = some (ys[k]'(by omega)) := List.getElem?_eq_getElem (by omega)
  rw [h1, h2] at e
  simp at e
  rw [h1, h2, e]
theorem take_ext' {xs ys : List Int} {k : Nat} (hl : ys.length = xs.length) (hk : k < xs.length) (h : xs.take k = ys.take k) (e : (xs[k] != ys[k]?.getD 0) = false) : xs.take (k + 1) = ys.take (k + 1) := by
  refine take_ext hl hk h ?_
  rw [List.getElem?_eq_getElem hk]
  simpa using e
theorem dec_ne {xs ys : List Int} {k : Nat} (hk : k < xs.length) (e : (xs[k] != ys[k]?.getD 0) = true) : Ending.returned (.bool false) = .returned (.bool (decide (xs = ys))) := by
  have : ¬ xs = ys := by
    intro h
    subst h
    simp [List.getElem?_eq_getElem hk] at e
  simp [this]
theorem dec_eq {xs ys : List Int} {k : Nat} (hl : ys.length = xs.length) (hk : xs.length ≤ k) (h : xs.take k = ys.take k) : Ending.returned (.bool true) = .returned (.bool (decide (xs = ys))) := by
  rw [List.take_of_length_le hk, List.take_of_length_le (by omega)] at h
  simp [h]
end Go.Proofs.YtplkmkbambbemaeGreatDoor
namespace Go.Proofs.YtplkmkbambbemaeGreatDoor
open Go.ChangeShapes Go.WideShapes Go.ChangeAt Go.RowKit Go.Shelf
def ptM (h : Nat) (l : List Int) : Int × Int := (sideR l 0 h, sideR l 1 h)
def chunkM (b : List Int) (order j : Nat) : List Int := (b.drop (j * order)).take order
def sentM (h : Nat) (b : List Int) (order n : Nat) : List (Int × Int) := (List.range n).map fun j => ptM h (chunkM b order j)
end Go.Proofs.YtplkmkbambbemaeGreatDoor
namespace Go.Proofs.YtplkmkbambbemaeGreatDoor
open Go.ChangeShapes Go.WideShapes Go.ChangeAt Go.RowKit
theorem Bits.all {zs : List Int} (h : Bits zs) : AllBits zs := fun x hx => by
  obtain ⟨k, hk, rfl⟩ := List.getElem_of_mem hx
  have := h k
  simpa [List.getD, hk] using this
theorem AllBits.append {a b : List Int} (ha : AllBits a) (hb : AllBits b) : AllBits (a ++ b) := fun x hx => by
  rcases List.mem_append.1 hx with h | h
  · exact ha x h
  · exact hb x h
theorem ksum_bitsL (zs : List Int) (k : Int) : Bits (ksum zs k) := fun j => by
  unfold ksum sumL
  by_cases h : j < kW k
  · have : (sumTo (kW k) (kP k) zs (kW k)).getD j 0 = b2i ((crc (kW k) (kP k) zs).testBit (kW k - 1 - j)) := by simp [sumTo, List.getD, h]
    rw [this]; exact b2i_bd _
  · have : (sumTo (kW k) (kP k) zs (kW k)).getD j 0 = 0 := by simp [sumTo, List.getD, h]
    rw [this]; omega
theorem trip_all (zs : List Int) (i : Nat) : AllBits (trip zs i) := fun x hx => by
  unfold trip at hx
  rcases List.mem_cons.1 hx with rfl | hx
  · omega
  rcases List.mem_cons.1 hx with rfl | hx
  · omega
  rcases List.mem_cons.1 hx with rfl | hx
  · omega
  cases hx
theorem codedTo_all (zs : List Int) : ∀ i, AllBits (codedTo zs i)
  | 0 => fun x hx => by cases hx
  | i + 1 => (codedTo_all zs i).append (trip_all zs i)
/-- Data's bits with their sum. -/
def sealM (z : List Int) : List Int := z ++ ksum z 3
theorem sealM_length (z : List Int) : (sealM z).length = z.length + 24 := by
  unfold sealM
  rw [List.length_append, show (ksum z 3).length = kW 3 from sumL_length _ _ _]
  rfl
theorem sealM_all {z : List Int} (h : AllBits z) : AllBits (sealM z) := h.append (ksum_bitsL z 3).all
/-- The coded bits of sealed bits, by settings. -/
def sizeL (S : Setg) : Nat := Nat.log2 S.size.toNat
def codeL (S : Setg) (z : List Int) : List Int := if S.code = 0 then codedTo z (z.length + 6) else turnM (sizeL S) (spreadM S.size.toNat (placesM S.size.toNat z.length) z z.length)
theorem size_pow {S : Setg} (h : powI S.size = true) : S.size = ((2 ^ sizeL S : Nat) : Int) ∧ S.size.toNat = 2 ^ sizeL S ∧ sizeL S ≤ 9 := by
  obtain ⟨m, hm, e⟩ := pow_of h
  have h2 : S.size.toNat = 2 ^ m := by rw [e]; exact Int.toNat_natCast _
  have h3 : sizeL S = m := by unfold sizeL; rw [h2]; exact Nat.log2_two_pow
  rw [h3]
  exact ⟨e, h2, hm⟩
theorem codeL_length {S : Setg} {z : List Int} {n : Nat} (hz : z.length = 8 * n + 24) (hc : S.code = 0 ∨ S.code = 1) (hp : S.code = 1 → powI S.size = true) : ((codeL S z).length : Int) = codedN S n := by
  unfold codeL codedN
  by_cases h0 : S.code = 0
  · rw [if_pos h0, if_pos h0, codedTo_length, hz]; omega
  · rw [if_neg h0, if_neg h0]
    obtain ⟨p1, p2, p3⟩ := size_pow (hp (by omega))
    rw [turn_length _ _ (by rw [spread_length, p2]), ← p1]
theorem codeL_all {S : Setg} {z : List Int} (h : AllBits z) : AllBits (codeL S z) := by
  unfold codeL
  split
  · exact codedTo_all _ _
  · exact turn_bits _ _ (spread_bits _ _ _ (fun j => h.at j) _)
/-- What is picked of bits; what a build covers and sends. -/
def takeM (b : List Int) (ps : List Nat) : List Int := ps.map fun p => b.getD p 0
theorem takeM_length (b : List Int) (ps : List Nat) : (takeM b ps).length = ps.length := by simp [takeM]
theorem takeM_bits {b : List Int} (h : AllBits b) (ps : List Nat) : AllBits (takeM b ps) := fun x hx => by
  obtain ⟨p, -, rfl⟩ := List.mem_map.1 hx
  exact h.at p
theorem addTo_all (xs ys : List Int) (k : Nat) : AllBits (addTo xs ys k) := fun x hx => by
  obtain ⟨i, -, rfl⟩ := List.mem_map.1 hx
  omega
def coverM (S : Setg) (xs : List Int) : List Int := addTo xs (noiseTo S.seed.toNat S.count.toNat) xs.length
def pickedK (S : Setg) (z : List Int) (v : Nat) : List Int := takeM (codeL S z) (pickTo (codeL S z).length v S.count.toNat)
def builtM (S : Setg) (s : ByteArray) (v : Nat) : List (Int × Int) := sentM (S.order.toNat / 2) (coverM S (pickedK S (sealM (unpackTo s (8 * s.size))) v)) S.order.toNat (S.count.toNat / S.order.toNat)
theorem pickTo_len (n v c : Nat) : (pickTo n v c).length = c := by simp [pickTo]
theorem pickedK_length (S : Setg) (z : List Int) (v : Nat) : (pickedK S z v).length = S.count.toNat := by unfold pickedK; rw [takeM_length, pickTo_len]
/-- What settings that may be are. -/
structure SetOk (S : Setg) (bytes : Int) : Prop where
  few : 0 ≤ bytes ∧ bytes ≤ 40
  code : S.code = 0 ∨ S.code = 1
  order : S.order = 2 ∨ S.order = 4 ∨ S.order = 6
  seed : 0 ≤ S.seed ∧ S.seed < 2147483648
  count : S.order ≤ S.count ∧ S.count ≤ 4096 ∧ S.count % S.order = 0
  size0 : S.code = 0 → S.size = 0
  size1 : S.code = 1 → powI S.size = true ∧ 8 * bytes + 24 ≤ S.size
theorem setOk_of {S : Setg} {bytes : Int} (h : setErr S bytes = 0) : SetOk S bytes := by
  unfold setErr at h
  by_cases c : (set1 S bytes && set2 S) = true
  · rw [if_pos c, Bool.and_eq_true] at *
    obtain ⟨c1, c2⟩ := c
    unfold set1 at c1
    unfold set2 at c2
    obtain ⟨a1, a2, a3, a4, a5, a6⟩ := of_decide_eq_true c1
    obtain ⟨b1, b2, b3, b4, b5⟩ := of_decide_eq_true c2
    by_cases d : S.code = 1 ∧ S.size < 8 * bytes + 24
    · rw [if_pos (decide_eq_true d)] at h; cases h
    · exact ⟨⟨a1, a2⟩, a3, a4, ⟨a5, a6⟩, ⟨b1, b2, b3⟩, b4, fun e => ⟨b5 e, by have : ¬ (S.size < 8 * bytes + 24) := fun g => d ⟨e, g⟩; omega⟩⟩
  · rw [if_neg c] at h; cases h
end Go.Proofs.YtplkmkbambbemaeGreatDoor
namespace Go.Proofs.YtplkmkbambbemaeGreatDoor
open Go.ChangeShapes Go.WideShapes Go.ChangeAt Go.RowKit
def tailWp (P : Program) (ops : Array Oper) (Q : Exit → Act → World → Prop) : List Nat → Act → World → Prop
  | [], a, w => Q .normal a w
  | i :: is, a, w => wpOp P ops Q i (fun a' w' => tailWp P ops Q is a' w') a w
theorem lkp_mid {l0 : List Value} (su : Nat) (post : List (Nat × Value)) (x x' : Value) : ∀ (pre : List (Nat × Value)) (s : Nat), s ≠ su → lkp l0 (pre ++ (su, x) :: post) s = lkp l0 (pre ++ (su, x') :: post) s
  | [], s, h => by
    have h1 : Nat.beq su s = false := beq_ne (fun e => h e.symm)
    rw [List.nil_append, List.nil_append, lkp, lkp]
    simp only [h1]
  | q :: pre, s, h => by
    rw [List.cons_append, List.cons_append, lkp, lkp, lkp_mid su post x x' pre s h]
theorem getD_atQ {α : Type} (l : List α) (d : α) {i : Nat} (h : i < l.length) : l.getD i d = l[i] := by simp [List.getD, h]
theorem put_list (l : List Value) (s : Nat) (v : Value) : ({ tmps := l.toArray, defers := [] } : Act).put (some s) v = { tmps := (l.set s v).toArray, defers := [] } := by
  simp [Act.put]
set_option maxHeartbeats 1000000 in
theorem region_grow {P : Program} {ops : Array Oper} {id : Nat} {l0 : List Value} {Q : Exit → Act → World → Prop} (n k u : Nat) (pre : List (Nat × Value)) (su : Nat) (post : List (Nat × Value)) (reads : List (List Nat)) (par : List Nat) (U : Value → World → Prop) (wr : World) (hm : P.follows .mixedOrders = true) (hn : ops.size = n) (hkn : k < n)
    (hu : pre.length = u) (hdk : pre.length + 1 + post.length = k) (hnd : ((pre ++ (su, undef) :: post).map (·.1)).Nodup) (hdN : ((pre ++ (su, undef) :: post).all fun q => decide (q.1 < l0.length)) = true)
    (havail : ((List.range k).all fun i => (reads.getD i []).all fun s => (List.range k).all fun j => (((pre ++ (su, undef) :: post).getD j (0, undef)).1 != s) || waitsFor ops i j) = true) (htopo : ((List.range n).all fun i => laterNone ops i) = true)
    (hrN : ((List.range k).all fun i => (reads.getD i []).all fun s => decide (s < l0.length)) = true)
    (hpar : ((List.range k).all fun j => decide (j < par.getD j 0) && (decide (par.getD j 0 ≤ k) && waitsFor ops (par.getD j 0) j)) = true) (htail : ((List.range n).all fun i => decide (i ≤ k) || waitsFor ops i (i - 1)) = true)
    (hU : ∀ x w w', U x w → w.grownBy w' none → U x w')
    (hstep : ∀ i, i < k → ∀ (x : Value) (a : Act) (w : World), Below wr.heap.size wr w → (∀ s ∈ reads.getD i [], a.eval (.tmp s) = lkp l0 (pre ++ (su, x) :: post) s) → ∀ (Q : Exit → Act → World → Prop) (K : Act → World → Prop), (i = u → ∀ x' w', w.grownBy w' none → U x' w' → K (a.put (some su) x') w') → (i ≠ u → ∀ w', w.grownBy w' none → K (a.put (some ((pre ++ (su, undef) :: post).getD i (0, undef)).1) ((pre ++ (su, undef) :: post).getD i (0, undef)).2) w') → wpOp P ops Q i K a w)
    (hlast : ∀ x w, Below wr.heap.size wr w → U x w → tailWp P ops Q (List.range' k (n - k)) { tmps := (setAll l0 (pre ++ (su, x) :: post)).toArray, defers := [] } w) :
    (Code.region id ops true).wp P Q { tmps := l0.toArray, defers := [] } wr := by
  subst hu
  have key : ∀ x : Value, (pre ++ (su, x) :: post).map (·.1) = (pre ++ (su, undef) :: post).map (·.1) := fun x => by simp
  have hlen : ∀ x : Value, (pre ++ (su, x) :: post).length = k := fun x => by simp; omega
  have hkey : ∀ (x : Value) (j : Nat), ((pre ++ (su, x) :: post).getD j (0, undef)).1 = ((pre ++ (su, undef) :: post).getD j (0, undef)).1 := fun x j => by
    have e : ∀ l : List (Nat × Value), (l.getD j (0, undef)).1 = (l.map (·.1)).getD j 0 := fun l => by
      simp only [List.getD, List.getElem?_map]
      cases l[j]? <;> rfl
    rw [e, e, key x]
  have hmid : ∀ x : Value, (pre ++ (su, x) :: post).getD pre.length (0, undef) = (su, x) := fun x => by simp [List.getD]
  have hoth : ∀ (x : Value) (j : Nat), j ≠ pre.length → (pre ++ (su, x) :: post).getD j (0, undef) = (pre ++ (su, undef) :: post).getD j (0, undef) := fun x j hj => by
    simp only [List.getD]
    rcases Nat.lt_or_ge j pre.length with h | h
    · rw [List.getElem?_append_left h, List.getElem?_append_left h]
    · rw [List.getElem?_append_right h, List.getElem?_append_right h]
      obtain ⟨m, hm'⟩ : ∃ m, j - pre.length = m + 1 := ⟨j - pre.length - 1, by omega⟩
      rw [hm', List.getElem?_cons_succ, List.getElem?_cons_succ]
  have hdN' : ∀ x : Value, ∀ q ∈ pre ++ (su, x) :: post, q.1 < l0.length := fun x q hq => by
    have h1 : q.1 ∈ (pre ++ (su, x) :: post).map (·.1) := List.mem_map_of_mem hq
    rw [key x] at h1
    obtain ⟨p, hp, e⟩ := List.mem_map.1 h1
    rw [← e]
    exact of_decide_eq_true (List.all_eq_true.1 hdN p hp)
  have hlt : ∀ (x : Value) (j : Nat), j < k → ((pre ++ (su, x) :: post).getD j (0, undef)).1 < l0.length := fun x j hj => by
    have e : (pre ++ (su, x) :: post).getD j (0, undef) = (pre ++ (su, x) :: post)[j]'(by rw [hlen]; exact hj) := getD_atQ _ _ (by rw [hlen]; exact hj)
    rw [e]
    exact hdN' x _ (List.getElem_mem _)
  have hnd' : ∀ x : Value, ((pre ++ (su, x) :: post).map (·.1)).Nodup := fun x => by rw [key x]; exact hnd
  have hP : ∀ j, j < k → j < par.getD j 0 ∧ par.getD j 0 ≤ k ∧ waitsFor ops (par.getD j 0) j = true := fun j hj => by
    have := List.all_eq_true.1 hpar j (List.mem_range.2 hj)
    rw [Bool.and_eq_true, Bool.and_eq_true, decide_eq_true_eq, decide_eq_true_eq] at this
    exact this
  have hT : ∀ i, i < n → k < i → waitsFor ops i (i - 1) = true := fun i hi hk => by
    have := List.all_eq_true.1 htail i (List.mem_range.2 hi)
    rw [Bool.or_eq_true, decide_eq_true_eq] at this
    rcases this with h | h
    · omega
    · exact h
  have hchain : ∀ (L : Nat → Bool), (∀ i j, L i = true → waitsFor ops i j = true → L j = true) → (∀ j, waitsFor ops k j = true → L j = true) → ∀ m j, j < k → k - j ≤ m → L j = true := by
    intro L hcl hk0 m
    induction m with
    | zero => intro j hj hm'; omega
    | succ m ih =>
      intro j hj hm'
      obtain ⟨p1, p2, p3⟩ := hP j hj
      by_cases hpk : par.getD j 0 = k
      · rw [hpk] at p3; exact hk0 j p3
      · exact hcl _ _ (ih _ (by omega) (by omega)) p3
  refine region_inv n (fun L a w => ((∀ j, k ≤ j → L j = false) ∧ (∀ i j, L i = true → waitsFor ops i j = true → L j = true) ∧ ∃ x, (L pre.length = true → U x w) ∧ a.tmps.size = l0.length ∧ a.defers = [] ∧ Below wr.heap.size wr w ∧ ∀ s, s < l0.length → (∀ i, i < k → ((pre ++ (su, undef) :: post).getD i (0, undef)).1 = s → L i = true) → a.eval (.tmp s) = lkp l0 (pre ++ (su, x) :: post) s) ∨ ∃ t, k ≤ t ∧ t ≤ n ∧ (∀ j, j < t → L j = true) ∧ (∀ j, t ≤ j → L j = false) ∧ tailWp P ops Q (List.range' t (n - t)) a w) _ wr hm hn htopo ?_ ?_ ?_
  · refine .inl ⟨fun _ _ => rfl, fun i j h => (by cases h), undef, fun h => (by cases h), by simp, rfl, (Below.refl _ wr).drew, fun s hs h => ?_⟩
    rw [lkp_none _ s (fun q hq e => ?_)]
    · simp [Act.eval, List.getD]
    · obtain ⟨i, hi, rfl⟩ := List.getElem_of_mem hq
      rw [hlen] at hi
      have := h i hi (by rw [← e, getD_atQ _ _ (by rw [hlen]; exact hi)])
      cases this
  · intro L a w i hI hi hLi hw
    rcases hI with ⟨hA1, hcl, x, hUx, hsz, hdf, hbel, hev⟩ | ⟨t, ht1, ht2, hB1, hB2, hB3⟩
    · rcases Nat.lt_or_ge i k with hik | hik
      · have hcl' : ∀ p j, (if p = i then true else L p) = true → waitsFor ops p j = true → (if j = i then true else L j) = true := fun p j hp hpj => by
          by_cases hji : j = i
          · rw [if_pos hji]
          · rw [if_neg hji]
            by_cases hpi : p = i
            · subst hpi; exact hw j hpj
            · rw [if_neg hpi] at hp; exact hcl p j hp hpj
        have hA1' : ∀ j, k ≤ j → (if j = i then true else L j) = false := fun j hj => by
          rw [if_neg (by omega)]; exact hA1 j hj
        refine hstep i hik x a w hbel (fun s hs => hev s ?_ (fun j hj e => hw j ?_)) Q _ (fun hiu x' w' hg hu => .inl ⟨hA1', hcl', x', fun _ => hu, by simp [Act.put, hsz], hdf, hbel.grown hg hbel.size (fun g e => by cases e), fun s hs h => ?_⟩) (fun hiu w' hg => .inl ⟨hA1', hcl', x, fun hL => hU x w w' (hUx ?_) hg, by simp [Act.put, hsz], hdf, hbel.grown hg hbel.size (fun g e => by cases e), fun s hs h => ?_⟩)
        · exact of_decide_eq_true (List.all_eq_true.1 (List.all_eq_true.1 hrN i (List.mem_range.2 hik)) s hs)
        · have := List.all_eq_true.1 (List.all_eq_true.1 (List.all_eq_true.1 havail i (List.mem_range.2 hik)) s hs) j (List.mem_range.2 hj)
          rw [e] at this
          simpa using this
        · by_cases e : su = s
          · subst e
            rw [Act.eval_put_same a _ _ (by rw [hsz]; exact hs)]
            have := lkp_at l0 _ (hnd' x') pre.length (by rw [hlen]; omega)
            rw [hmid] at this
            exact this.symm
          · rw [Act.eval_put_ne a _ _ _ e, lkp_mid su post x' x pre s (fun h => e h.symm)]
            refine hev s hs (fun j hj ej => ?_)
            have h3 : (if j = i then true else L j) = true := h j hj ej
            by_cases hji : j = i
            · subst hji; subst hiu
              rw [hmid] at ej
              exact absurd ej e
            · rw [if_neg hji] at h3; exact h3
        · have h3 : (if pre.length = i then true else L pre.length) = true := hL
          rw [if_neg (fun h => hiu h.symm)] at h3
          exact h3
        · by_cases e : ((pre ++ (su, undef) :: post).getD i (0, undef)).1 = s
          · subst e
            rw [Act.eval_put_same a _ _ (by rw [hsz]; exact hs), ← hoth x i hiu]
            exact (lkp_at l0 _ (hnd' x) i (by rw [hlen]; exact hik)).symm
          · rw [Act.eval_put_ne a _ _ _ e]
            refine hev s hs (fun j hj ej => ?_)
            have h3 : (if j = i then true else L j) = true := h j hj ej
            by_cases hji : j = i
            · subst hji; exact absurd ej e
            · rw [if_neg hji] at h3; exact h3
      · have hik' : i = k := by
          apply Nat.le_antisymm _ hik
          apply Nat.le_of_not_lt
          intro hc
          have h1 := hw _ (hT i hi hc)
          rw [hA1 (i - 1) (by omega)] at h1
          cases h1
        subst hik'
        have hall : ∀ j, j < i → L j = true := fun j hj => hchain L hcl hw _ j hj (Nat.le_refl _)
        have ha : a = { tmps := (setAll l0 (pre ++ (su, x) :: post)).toArray, defers := [] } := act_known a _ (by rw [setAll_length]; exact hsz) hdf (fun s hs => by
          rw [setAll_length] at hs
          rw [setAll_lkp _ l0 s (hnd' x) (hdN' x)]
          exact hev s hs (fun j hj _ => hall j hj))
        have h1 := hlast x w hbel (hUx (hall _ (by omega)))
        obtain ⟨m, hm'⟩ : ∃ m, n - i = m + 1 := ⟨n - i - 1, by omega⟩
        rw [hm', List.range'_succ, tailWp, ← ha] at h1
        refine wpOp_mono (fun a' w' h => .inr ⟨i + 1, by omega, by omega, fun j hj => ?_, fun j hj => ?_, ?_⟩) h1
        · show (if j = i then true else L j) = true
          by_cases hji : j = i
          · rw [if_pos hji]
          · rw [if_neg hji]; exact hall j (by omega)
        · show (if j = i then true else L j) = false
          rw [if_neg (by omega)]; exact hA1 j (by omega)
        · rw [show n - (i + 1) = m by omega]; exact h
    · have hti : t ≤ i := by
        apply Nat.le_of_not_lt
        intro hc
        rw [hB1 i hc] at hLi
        cases hLi
      have hti' : i = t := by
        apply Nat.le_antisymm _ hti
        apply Nat.le_of_not_lt
        intro hc
        have h1 := hw _ (hT i hi (by omega))
        rw [hB2 (i - 1) (by omega)] at h1
        cases h1
      subst hti'
      obtain ⟨m, hm'⟩ : ∃ m, n - i = m + 1 := ⟨n - i - 1, by omega⟩
      rw [hm', List.range'_succ, tailWp] at hB3
      refine wpOp_mono (fun a' w' h => .inr ⟨i + 1, by omega, by omega, fun j hj => ?_, fun j hj => ?_, ?_⟩) hB3
      · show (if j = i then true else L j) = true
        by_cases hji : j = i
        · rw [if_pos hji]
        · rw [if_neg hji]; exact hB1 j (by omega)
      · show (if j = i then true else L j) = false
        rw [if_neg (by omega)]; exact hB2 j (by omega)
      · rw [show n - (i + 1) = m by omega]; exact h
  · rintro L a w hL (⟨hA1, _⟩ | ⟨t, ht1, ht2, hB1, hB2, hB3⟩)
    · have := hL k hkn
      rw [hA1 k (Nat.le_refl _)] at this
      cases this
    · have htn : t = n := by
        apply Nat.le_antisymm ht2
        apply Nat.le_of_not_lt
        intro hc
        have := hL t hc
        rw [hB2 t (Nat.le_refl _)] at this
        cases this
      subst htn
      rw [Nat.sub_self] at hB3
      exact hB3
theorem eval_setAll {l0 : List Value} {t : List (Nat × Value)} (s : Nat) (hn : (t.map (·.1)).Nodup) (hl : (t.all fun q => decide (q.1 < l0.length)) = true) : ({ tmps := (setAll l0 t).toArray, defers := [] } : Act).eval (.tmp s) = lkp l0 t s := by
  rw [← setAll_lkp t l0 s hn (fun q hq => of_decide_eq_true (List.all_eq_true.1 hl q hq))]
  simp [Act.eval, List.getD]
end Go.Proofs.YtplkmkbambbemaeGreatDoor
namespace Go.Proofs.YtplkmkbambbemaeGreatDoor
open Go.ChangeShapes Go.WideShapes Go.ChangeAt Go.RowKit
set_option maxHeartbeats 1000000 in
theorem region_growU {P : Program} {ops : Array Oper} {id : Nat} {l0 : List Value} {Q : Exit → Act → World → Prop} (n k u : Nat) (pre : List (Nat × Value)) (su : Nat) (post : List (Nat × Value)) (reads : List (List Nat)) (par : List Nat) (U : Value → World → Prop) (wr : World) (hm : P.follows .mixedOrders = true) (hn : ops.size = n) (hkn : k < n)
    (hu : pre.length = u) (hdk : pre.length + 1 + post.length = k) (hnd : ((pre ++ (su, undef) :: post).map (·.1)).Nodup) (hdN : ((pre ++ (su, undef) :: post).all fun q => decide (q.1 < l0.length)) = true)
    (havail : ((List.range k).all fun i => (reads.getD i []).all fun s => (List.range k).all fun j => (((pre ++ (su, undef) :: post).getD j (0, undef)).1 != s) || waitsFor ops i j) = true) (htopo : ((List.range n).all fun i => laterNone ops i) = true)
    (hrN : ((List.range k).all fun i => (reads.getD i []).all fun s => decide (s < l0.length)) = true)
    (hpar : ((List.range k).all fun j => decide (j < par.getD j 0) && (decide (par.getD j 0 ≤ k) && waitsFor ops (par.getD j 0) j)) = true) (htail : ((List.range n).all fun i => decide (i ≤ k) || waitsFor ops i (i - 1)) = true)
    (hU : ∀ x w w', U x w → w.grownBy w' none → U x w')
    (hstep : ∀ i, i < k → ∀ (x : Value) (a : Act) (w : World), Below wr.heap.size wr w → (su ∈ reads.getD i [] → U x w) → (∀ s ∈ reads.getD i [], a.eval (.tmp s) = lkp l0 (pre ++ (su, x) :: post) s) → ∀ (Q : Exit → Act → World → Prop) (K : Act → World → Prop), (i = u → ∀ x' w', w.grownBy w' none → U x' w' → K (a.put (some su) x') w') → (i ≠ u → ∀ w', w.grownBy w' none → K (a.put (some ((pre ++ (su, undef) :: post).getD i (0, undef)).1) ((pre ++ (su, undef) :: post).getD i (0, undef)).2) w') → wpOp P ops Q i K a w)
    (hlast : ∀ x w, Below wr.heap.size wr w → U x w → tailWp P ops Q (List.range' k (n - k)) { tmps := (setAll l0 (pre ++ (su, x) :: post)).toArray, defers := [] } w) :
    (Code.region id ops true).wp P Q { tmps := l0.toArray, defers := [] } wr := by
  subst hu
  have key : ∀ x : Value, (pre ++ (su, x) :: post).map (·.1) = (pre ++ (su, undef) :: post).map (·.1) := fun x => by simp
  have hlen : ∀ x : Value, (pre ++ (su, x) :: post).length = k := fun x => by simp; omega
  have hkey : ∀ (x : Value) (j : Nat), ((pre ++ (su, x) :: post).getD j (0, undef)).1 = ((pre ++ (su, undef) :: post).getD j (0, undef)).1 := fun x j => by
    have e : ∀ l : List (Nat × Value), (l.getD j (0, undef)).1 = (l.map (·.1)).getD j 0 := fun l => by
      simp only [List.getD, List.getElem?_map]
      cases l[j]? <;> rfl
    rw [e, e, key x]
  have hmid : ∀ x : Value, (pre ++ (su, x) :: post).getD pre.length (0, undef) = (su, x) := fun x => by simp [List.getD]
  have hoth : ∀ (x : Value) (j : Nat), j ≠ pre.length → (pre ++ (su, x) :: post).getD j (0, undef) = (pre ++ (su, undef) :: post).getD j (0, undef) := fun x j hj => by
    simp only [List.getD]
    rcases Nat.lt_or_ge j pre.length with h | h
    · rw [List.getElem?_append_left h, List.getElem?_append_left h]
    · rw [List.getElem?_append_right h, List.getElem?_append_right h]
      obtain ⟨m, hm'⟩ : ∃ m, j - pre.length = m + 1 := ⟨j - pre.length - 1, by omega⟩
      rw [hm', List.getElem?_cons_succ, List.getElem?_cons_succ]
  have hdN' : ∀ x : Value, ∀ q ∈ pre ++ (su, x) :: post, q.1 < l0.length := fun x q hq => by
    have h1 : q.1 ∈ (pre ++ (su, x) :: post).map (·.1) := List.mem_map_of_mem hq
    rw [key x] at h1
    obtain ⟨p, hp, e⟩ := List.mem_map.1 h1
    rw [← e]
    exact of_decide_eq_true (List.all_eq_true.1 hdN p hp)
  have hlt : ∀ (x : Value) (j : Nat), j < k → ((pre ++ (su, x) :: post).getD j (0, undef)).1 < l0.length := fun x j hj => by
    have e : (pre ++ (su, x) :: post).getD j (0, undef) = (pre ++ (su, x) :: post)[j]'(by rw [hlen]; exact hj) := getD_atQ _ _ (by rw [hlen]; exact hj)
    rw [e]
    exact hdN' x _ (List.getElem_mem _)
  have hnd' : ∀ x : Value, ((pre ++ (su, x) :: post).map (·.1)).Nodup := fun x => by rw [key x]; exact hnd
  have hP : ∀ j, j < k → j < par.getD j 0 ∧ par.getD j 0 ≤ k ∧ waitsFor ops (par.getD j 0) j = true := fun j hj => by
    have := List.all_eq_true.1 hpar j (List.mem_range.2 hj)
    rw [Bool.and_eq_true, Bool.and_eq_true, decide_eq_true_eq, decide_eq_true_eq] at this
    exact this
  have hT : ∀ i, i < n → k < i → waitsFor ops i (i - 1) = true := fun i hi hk => by
    have := List.all_eq_true.1 htail i (List.mem_range.2 hi)
    rw [Bool.or_eq_true, decide_eq_true_eq] at this
    rcases this with h | h
    · omega
    · exact h
  have hchain : ∀ (L : Nat → Bool), (∀ i j, L i = true → waitsFor ops i j = true → L j = true) → (∀ j, waitsFor ops k j = true → L j = true) → ∀ m j, j < k → k - j ≤ m → L j = true := by
    intro L hcl hk0 m
    induction m with
    | zero => intro j hj hm'; omega
    | succ m ih =>
      intro j hj hm'
      obtain ⟨p1, p2, p3⟩ := hP j hj
      by_cases hpk : par.getD j 0 = k
      · rw [hpk] at p3; exact hk0 j p3
      · exact hcl _ _ (ih _ (by omega) (by omega)) p3
  refine region_inv n (fun L a w => ((∀ j, k ≤ j → L j = false) ∧ (∀ i j, L i = true → waitsFor ops i j = true → L j = true) ∧ ∃ x, (L pre.length = true → U x w) ∧ a.tmps.size = l0.length ∧ a.defers = [] ∧ Below wr.heap.size wr w ∧ ∀ s, s < l0.length → (∀ i, i < k → ((pre ++ (su, undef) :: post).getD i (0, undef)).1 = s → L i = true) → a.eval (.tmp s) = lkp l0 (pre ++ (su, x) :: post) s) ∨ ∃ t, k ≤ t ∧ t ≤ n ∧ (∀ j, j < t → L j = true) ∧ (∀ j, t ≤ j → L j = false) ∧ tailWp P ops Q (List.range' t (n - t)) a w) _ wr hm hn htopo ?_ ?_ ?_
  · refine .inl ⟨fun _ _ => rfl, fun i j h => (by cases h), undef, fun h => (by cases h), by simp, rfl, (Below.refl _ wr).drew, fun s hs h => ?_⟩
    rw [lkp_none _ s (fun q hq e => ?_)]
    · simp [Act.eval, List.getD]
    · obtain ⟨i, hi, rfl⟩ := List.getElem_of_mem hq
      rw [hlen] at hi
      have := h i hi (by rw [← e, getD_atQ _ _ (by rw [hlen]; exact hi)])
      cases this
  · intro L a w i hI hi hLi hw
    rcases hI with ⟨hA1, hcl, x, hUx, hsz, hdf, hbel, hev⟩ | ⟨t, ht1, ht2, hB1, hB2, hB3⟩
    · rcases Nat.lt_or_ge i k with hik | hik
      · have hcl' : ∀ p j, (if p = i then true else L p) = true → waitsFor ops p j = true → (if j = i then true else L j) = true := fun p j hp hpj => by
          by_cases hji : j = i
          · rw [if_pos hji]
          · rw [if_neg hji]
            by_cases hpi : p = i
            · subst hpi; exact hw j hpj
            · rw [if_neg hpi] at hp; exact hcl p j hp hpj
        have hA1' : ∀ j, k ≤ j → (if j = i then true else L j) = false := fun j hj => by
          rw [if_neg (by omega)]; exact hA1 j hj
        refine hstep i hik x a w hbel (fun hs => hUx (hw _ ?_)) (fun s hs => hev s ?_ (fun j hj e => hw j ?_)) Q _ (fun hiu x' w' hg hu => .inl ⟨hA1', hcl', x', fun _ => hu, by simp [Act.put, hsz], hdf, hbel.grown hg hbel.size (fun g e => by cases e), fun s hs h => ?_⟩) (fun hiu w' hg => .inl ⟨hA1', hcl', x, fun hL => hU x w w' (hUx ?_) hg, by simp [Act.put, hsz], hdf, hbel.grown hg hbel.size (fun g e => by cases e), fun s hs h => ?_⟩)
        · have := List.all_eq_true.1 (List.all_eq_true.1 (List.all_eq_true.1 havail i (List.mem_range.2 hik)) su hs) pre.length (List.mem_range.2 (by omega))
          rw [hmid] at this
          simpa using this
        · exact of_decide_eq_true (List.all_eq_true.1 (List.all_eq_true.1 hrN i (List.mem_range.2 hik)) s hs)
        · have := List.all_eq_true.1 (List.all_eq_true.1 (List.all_eq_true.1 havail i (List.mem_range.2 hik)) s hs) j (List.mem_range.2 hj)
          rw [e] at this
          simpa using this
        · by_cases e : su = s
          · subst e
            rw [Act.eval_put_same a _ _ (by rw [hsz]; exact hs)]
            have := lkp_at l0 _ (hnd' x') pre.length (by rw [hlen]; omega)
            rw [hmid] at this
            exact this.symm
          · rw [Act.eval_put_ne a _ _ _ e, lkp_mid su post x' x pre s (fun h => e h.symm)]
            refine hev s hs (fun j hj ej => ?_)
            have h3 : (if j = i then true else L j) = true := h j hj ej
            by_cases hji : j = i
            · subst hji; subst hiu
              rw [hmid] at ej
              exact absurd ej e
            · rw [if_neg hji] at h3; exact h3
        · have h3 : (if pre.length = i then true else L pre.length) = true := hL
          rw [if_neg (fun h => hiu h.symm)] at h3
          exact h3
        · by_cases e : ((pre ++ (su, undef) :: post).getD i (0, undef)).1 = s
          · subst e
            rw [Act.eval_put_same a _ _ (by rw [hsz]; exact hs), ← hoth x i hiu]
            exact (lkp_at l0 _ (hnd' x) i (by rw [hlen]; exact hik)).symm
          · rw [Act.eval_put_ne a _ _ _ e]
            refine hev s hs (fun j hj ej => ?_)
            have h3 : (if j = i then true else L j) = true := h j hj ej
            by_cases hji : j = i
            · subst hji; exact absurd ej e
            · rw [if_neg hji] at h3; exact h3
      · have hik' : i = k := by
          apply Nat.le_antisymm _ hik
          apply Nat.le_of_not_lt
          intro hc
          have h1 := hw _ (hT i hi hc)
          rw [hA1 (i - 1) (by omega)] at h1
          cases h1
        subst hik'
        have hall : ∀ j, j < i → L j = true := fun j hj => hchain L hcl hw _ j hj (Nat.le_refl _)
        have ha : a = { tmps := (setAll l0 (pre ++ (su, x) :: post)).toArray, defers := [] } := act_known a _ (by rw [setAll_length]; exact hsz) hdf (fun s hs => by
          rw [setAll_length] at hs
          rw [setAll_lkp _ l0 s (hnd' x) (hdN' x)]
          exact hev s hs (fun j hj _ => hall j hj))
        have h1 := hlast x w hbel (hUx (hall _ (by omega)))
        obtain ⟨m, hm'⟩ : ∃ m, n - i = m + 1 := ⟨n - i - 1, by omega⟩
        rw [hm', List.range'_succ, tailWp, ← ha] at h1
        refine wpOp_mono (fun a' w' h => .inr ⟨i + 1, by omega, by omega, fun j hj => ?_, fun j hj => ?_, ?_⟩) h1
        · show (if j = i then true else L j) = true
          by_cases hji : j = i
          · rw [if_pos hji]
          · rw [if_neg hji]; exact hall j (by omega)
        · show (if j = i then true else L j) = false
          rw [if_neg (by omega)]; exact hA1 j (by omega)
        · rw [show n - (i + 1) = m by omega]; exact h
    · have hti : t ≤ i := by
        apply Nat.le_of_not_lt
        intro hc
        rw [hB1 i hc] at hLi
        cases hLi
      have hti' : i = t := by
        apply Nat.le_antisymm _ hti
        apply Nat.le_of_not_lt
        intro hc
        have h1 := hw _ (hT i hi (by omega))
        rw [hB2 (i - 1) (by omega)] at h1
        cases h1
      subst hti'
      obtain ⟨m, hm'⟩ : ∃ m, n - i = m + 1 := ⟨n - i - 1, by omega⟩
      rw [hm', List.range'_succ, tailWp] at hB3
      refine wpOp_mono (fun a' w' h => .inr ⟨i + 1, by omega, by omega, fun j hj => ?_, fun j hj => ?_, ?_⟩) hB3
      · show (if j = i then true else L j) = true
        by_cases hji : j = i
        · rw [if_pos hji]
        · rw [if_neg hji]; exact hB1 j (by omega)
      · show (if j = i then true else L j) = false
        rw [if_neg (by omega)]; exact hB2 j (by omega)
      · rw [show n - (i + 1) = m by omega]; exact h
  · rintro L a w hL (⟨hA1, _⟩ | ⟨t, ht1, ht2, hB1, hB2, hB3⟩)
    · have := hL k hkn
      rw [hA1 k (Nat.le_refl _)] at this
      cases this
    · have htn : t = n := by
        apply Nat.le_antisymm ht2
        apply Nat.le_of_not_lt
        intro hc
        have := hL t hc
        rw [hB2 t (Nat.le_refl _)] at this
        cases this
      subst htn
      rw [Nat.sub_self] at hB3
      exact hB3
end Go.Proofs.YtplkmkbambbemaeGreatDoor
namespace Go.Proofs.YtplkmkbambbemaeGreatDoor
open Go.ChangeShapes Go.WideShapes Go.ChangeAt Go.RowKit
theorem wanted_of {ops : Array Oper} {o oj : Oper} {a : Act} {j s : Nat} {want : Bool} (hg : o.guard = some (j, want)) (hj : ops[j]? = some oj) (hd : oj.dst = some s) (hs : a.eval (.tmp s) = .bool want) : Region.wanted o (yielded ops a.tmps) = true := by
  have h2 : a.tmps.getD s undef = .bool want := hs
  have h3 : a.tmps[s]? = some (.bool want) := by
    by_cases h : s < a.tmps.size
    · simp [Array.getD, h] at h2
      simp [h, h2]
    · simp [Array.getD, h] at h2
      cases h2
  unfold Region.wanted yielded
  simp [hg, hj, hd, h3]
theorem op_valueG {P : Program} {ops : Array Oper} {Q : Exit → Act → World → Prop} {i : Nat} {o oj : Oper} {a : Act} {w w' : World} {v : Value} {K : Act → World → Prop} {j s : Nat} {want : Bool} (hi : ops[i]? = some o) (hg : o.guard = some (j, want)) (hj : ops[j]? = some oj) (hd : oj.dst = some s) (hs : a.eval (.tmp s) = .bool want)
    (hrun : (execOp a.eval o).run P w = .ok (.value v) w') (hK : K (a.put o.dst v) w') : wpOp P ops Q i K a w := by
  unfold wpOp
  rw [hi]
  have hw := wanted_of hg hj hd hs
  simp only [hw, if_true, Oper.wp]
  left
  rw [hrun]
  exact hK
theorem op_skipG {P : Program} {ops : Array Oper} {Q : Exit → Act → World → Prop} {i : Nat} {o oj : Oper} {a : Act} {w : World} {K : Act → World → Prop} {j s : Nat} {want : Bool} (hi : ops[i]? = some o) (hg : o.guard = some (j, want)) (hj : ops[j]? = some oj) (hd : oj.dst = some s) (hs : a.eval (.tmp s) = .bool (!want))
    (hK : K (a.put o.dst undef) w) : wpOp P ops Q i K a w := by
  have h2 : a.tmps.getD s undef = .bool (!want) := hs
  have h3 : a.tmps[s]? = some (.bool (!want)) := by
    by_cases h : s < a.tmps.size
    · simp [Array.getD, h] at h2
      simp [h, h2]
    · simp [Array.getD, h] at h2
      cases h2
  unfold wpOp
  rw [hi]
  have hw : Region.wanted o (yielded ops a.tmps) = false := by
    unfold Region.wanted yielded
    simp [hg, hj, hd, h3]
  simp only [hw]
  exact hK
theorem run_eqlI {ρ : Operand → Value} (w : World) {o : Oper} {x y : Operand} {p q : Int} (ho : o.op = .binOp .eql 3 x y 3) (h : ρ x = .int .i64 p) (h' : ρ y = .int .i64 q) : (execOp ρ o).run Tryz.prog w = .ok (.value (.bool (p == q))) w := by
  unfold execOp
  simp only [ho, h, h']
  simp [go_sem]
theorem run_gtrI {ρ : Operand → Value} (w : World) {o : Oper} {x y : Operand} {p q : Int} (ho : o.op = .binOp .gtr 3 x y 3) (h : ρ x = .int .i64 p) (h' : ρ y = .int .i64 q) : (execOp ρ o).run Tryz.prog w = .ok (.value (.bool (decide (q < p)))) w := by
  unfold execOp
  simp only [ho, h, h']
  simp [go_sem]
theorem run_pickQ {ρ : Operand → Value} {P : Program} (w : World) {o : Oper} {x y z : Operand} {g : Bool} {v : Value} (ho : o.op = .pick x y z) (h : ρ x = .bool g) (h' : (if g then ρ y else ρ z) = v) : (execOp ρ o).run P w = .ok (.value v) w := by
  unfold execOp
  subst h'
  cases g
  · simp only [ho, h]
    simp [go_sem]
  · simp only [ho, h]
    simp [go_sem]
end Go.Proofs.YtplkmkbambbemaeGreatDoor
