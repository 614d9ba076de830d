import Derived.Test.YtdndeegpbjlibadGreatDoorK26
import Derived.RangeFuncBox
import Derived.RangeFuncLeaves
namespace Go.Proofs.YtdndeegpbjlibadGreatDoor
open Go.ChangeShapes Go.WideShapes Go.ChangeAt Go.RowKit

/-! WHAT THE ROUNDS OF A RANGE OVER A FUNCTION MAKE. -/

/-- All cells but S's are as they were. -/
structure KeptC (S : List Nat) (W W' : World) : Prop where
  size : W.heap.size ≤ W'.heap.size
  same : ∀ k o, W.heap[k]? = some o → o.isCells = true → k ∉ S → W'.heap[k]? = some o
theorem KeptC.refl (S : List Nat) (W : World) : KeptC S W W := ⟨Nat.le_refl _, fun _ _ h _ _ => h⟩
theorem KeptC.trans {S : List Nat} {A B C : World} (h : KeptC S A B) (k : KeptC S B C) : KeptC S A C := ⟨Nat.le_trans h.size k.size, fun i o hi ho hn => k.same i o (h.same i o hi ho hn) ho hn⟩
theorem KeptC.putObj {S : List Nat} (W : World) (l : Nat) (o o' : Obj) (h : W.heap[l]? = some o) (ho : o.isCells = false) : KeptC S W (W.putObj l o') :=
  ⟨by simp [World.putObj], fun k x hk hx _ => (World.putObj_heap_other (fun e => by subst e; rw [h] at hk; cases hk; rw [ho] at hx; cases hx)).trans hk⟩
theorem KeptC.setCell {S : List Nat} {p : Addr} (W : World) (hp : p.block ∈ S) (u : Value) : KeptC S W (W.setCell p u) :=
  ⟨by simp [World.setCell], fun k o hk _ hn => (Below.heap_setCell W p u k (fun e => hn (by rw [e]; exact hp))).trans hk⟩
theorem KeptC.alloc {S : List Nat} (W : World) (o : Obj) : KeptC S W (W.alloc o) :=
  ⟨by simp, fun k x hk _ _ => (Below.heap_alloc _ _ _ (Array.getElem?_eq_some_iff.1 hk).1).trans hk⟩
theorem KeptC.drew {S : List Nat} {A W : World} (h : KeptC S A W) : KeptC S A W.drew := ⟨h.size, h.same⟩
theorem KeptC.cell {S : List Nat} {W W' : World} (h : KeptC S W W') {p : Addr} {v : Value} (hc : W.cell? p = some v) (hp : p.block ∉ S) : W'.cell? p = some v := by
  obtain ⟨o, ho, hx⟩ := cells_of_cell hc
  have := h.same _ _ ho hx hp
  rw [← hc]
  simp only [World.cell?, ho, this]
theorem KeptC.rd {S : List Nat} {a b : World} (h : KeptC S a b) {k : IntKind} {ad : Option Addr} {zs : List Int} (hr : Rd k a ad zs) (hs : ∀ g o, ad = some ⟨g, o, none⟩ → zs ≠ [] → g ∉ S) : Rd k b ad zs := by
  intro hne
  obtain ⟨g, o, rfl, hc⟩ := hr hne
  exact ⟨g, o, rfl, fun j hj => h.cell (hc j hj) (hs g o rfl hne)⟩
theorem KeptC.of_grown {S : List Nat} {W W' : World} {g : Nat} (h : W.grownBy W' (some g)) (hg : g ∈ S) : KeptC S W W' :=
  ⟨h.size, fun k _ hk _ hn => (h.block k (Array.getElem?_eq_some_iff.1 hk).1 (fun e => by cases e; exact hn hg)).trans hk⟩
theorem keptC_b {S : List Nat} {w : World} (W : World) (l : Nat) (o o' : Obj) (_ : w.heap.size ≤ l) (h : W.heap[l]? = some o) (ho : o.isCells = false) (_ : o.isWalk = false) : KeptC S W (W.putObj l o') := KeptC.putObj W l o o' h ho
/-- Where all blocks but S's lie as they were, the cells do. -/
theorem Kept.cells {S : List Nat} {W W' : World} (h : Kept S W W') : KeptC S W W' := ⟨h.size, fun k _ hk _ hn => (h.block k (Array.getElem?_eq_some_iff.1 hk).1 hn).trans hk⟩
theorem Below.grows {W W' : World} (h : Below W.heap.size W W') : W.grownBy W' none := ⟨h.os, h.tape, h.output, h.size, fun k hk _ => h.block k hk⟩

/-- What is gathered in rounds. -/
def gathF (n v : Nat) (xs s : List Int) (pre : List Nat) : List Int := pre.foldl (fun L i => L.set (pickM n v i) (L.getD (pickM n v i) 0 + xs.getD i 0)) s
theorem gathF_snoc (n v : Nat) (xs s : List Int) (pre : List Nat) (i : Nat) : gathF n v xs s (pre ++ [i]) = (gathF n v xs s pre).set (pickM n v i) ((gathF n v xs s pre).getD (pickM n v i) 0 + xs.getD i 0) := by simp [gathF, List.foldl_append]
theorem gathF_length (n v : Nat) (xs : List Int) (pre : List Nat) : ∀ s : List Int, (gathF n v xs s pre).length = s.length := by
  induction pre with
  | nil => intro s; rfl
  | cons i pre ih =>
    intro s
    have := ih (s.set (pickM n v i) (s.getD (pickM n v i) 0 + xs.getD i 0))
    rw [List.length_set] at this
    exact this
theorem gathF_range (n v : Nat) (xs s : List Int) (c : Nat) : ∀ k, k ≤ c → gathF n v xs s (List.range k) = gathTo s (pickTo n v c) xs k
  | 0, _ => rfl
  | k + 1, hk => by
    rw [List.range_succ, gathF_snoc, gathF_range n v xs s c k (by omega)]
    have : (pickTo n v c).getD k 0 = pickM n v k := pickTo_at (by omega)
    show _ = (gathTo s (pickTo n v c) xs k).set ((pickTo n v c).getD k 0) ((gathTo s (pickTo n v c) xs k).getD ((pickTo n v c).getD k 0) 0 + xs.getD k 0)
    rw [this]
theorem getD_set_any (L : List Int) (i j : Nat) (x : Int) : (L.set i x).getD j 0 = x ∨ (L.set i x).getD j 0 = L.getD j 0 := by
  simp only [List.getD, List.getElem?_set]
  split
  · split
    · exact .inl rfl
    · rename_i h1 h2
      right
      subst h1
      rw [List.getElem?_eq_none (by omega)]
  · exact .inr rfl
theorem gathF_bd0 (n v : Nat) {xs : List Int} (hx : softOk xs = true) (pre : List Nat) : ∀ (s : List Int) (M : Int), (∀ j, -M ≤ s.getD j 0 ∧ s.getD j 0 ≤ M) → ∀ j, -(M + 100000 * (pre.length : Int)) ≤ (gathF n v xs s pre).getD j 0 ∧ (gathF n v xs s pre).getD j 0 ≤ M + 100000 * (pre.length : Int) := by
  induction pre with
  | nil => intro s M h j; have := h j; simpa [gathF] using this
  | cons i pre ih =>
    intro s M h j
    have h1 := soft_at hx i
    have h2 := ih (s.set (pickM n v i) (s.getD (pickM n v i) 0 + xs.getD i 0)) (M + 100000) (fun j => by
      have h3 := h (pickM n v i)
      have h4 := h j
      rcases getD_set_any s (pickM n v i) j (s.getD (pickM n v i) 0 + xs.getD i 0) with e | e
      · rw [e]; omega
      · rw [e]; omega) j
    have e : gathF n v xs s (i :: pre) = gathF n v xs (s.set (pickM n v i) (s.getD (pickM n v i) 0 + xs.getD i 0)) pre := rfl
    rw [e, List.length_cons]
    omega
theorem gathF_bd (n v : Nat) {xs s : List Int} (hs : softOk s = true) (hx : softOk xs = true) (pre : List Nat) (j : Nat) : -(100000 + 100000 * (pre.length : Int)) ≤ (gathF n v xs s pre).getD j 0 ∧ (gathF n v xs s pre).getD j 0 ≤ 100000 + 100000 * (pre.length : Int) :=
  gathF_bd0 n v hx pre s 100000 (soft_at hs) j

/-- What is picked in rounds. -/
def pickF (n v : Nat) (cs s : List Int) (pre : List Nat) : List Int := pre.foldl (fun L i => L.set i (cs.getD (pickM n v i) 0)) s
theorem pickF_snoc (n v : Nat) (cs s : List Int) (pre : List Nat) (i : Nat) : pickF n v cs s (pre ++ [i]) = (pickF n v cs s pre).set i (cs.getD (pickM n v i) 0) := by simp [pickF, List.foldl_append]
theorem pickF_length (n v : Nat) (cs : List Int) (pre : List Nat) : ∀ s : List Int, (pickF n v cs s pre).length = s.length := by
  induction pre with
  | nil => intro s; rfl
  | cons i pre ih =>
    intro s
    have := ih (s.set i (cs.getD (pickM n v i) 0))
    rw [List.length_set] at this
    exact this
theorem pickF_range (v : Nat) (cs : List Int) (K : Nat) : ∀ k, k ≤ K → pickF cs.length v cs (List.replicate K 0) (List.range k) = pickedM cs v k ++ List.replicate (K - k) 0
  | 0, _ => by simp [pickF, pickedM]
  | k + 1, hk => by
    rw [List.range_succ, pickF_snoc, pickF_range v cs K k (by omega)]
    have e : pickedM cs v (k + 1) = pickedM cs v k ++ [cs.getD (pickM cs.length v k) 0] := by simp [pickedM, List.range_succ]
    have er : List.replicate (K - k) (0 : Int) = 0 :: List.replicate (K - (k + 1)) 0 := by
      rw [show K - k = (K - (k + 1)) + 1 by omega, List.replicate_succ]
    rw [e, er, List.set_append_right _ _ (by rw [pickedM_length]; omega), pickedM_length]
    simp
theorem pickF_all (v : Nat) (cs : List Int) (K : Nat) : pickF cs.length v cs (List.replicate K 0) (List.range K) = pickedM cs v K := by
  rw [pickF_range v cs K K (Nat.le_refl _)]
  simp
end Go.Proofs.YtdndeegpbjlibadGreatDoor

namespace Go.Proofs.YtdndeegpbjlibadGreatDoor
open Go.ChangeShapes Go.WideShapes Go.ChangeAt Go.RowKit

/-! THE PROGRAM'S SMALL CHECKS. -/

def sizeOk (n : Int) : Bool := decide (1 ≤ n ∧ n ≤ 4096)
def sizeErrM (n : Int) : Int := if sizeOk n then 0 else 1
def verErr (v : Int) : Int := if verOk v then 0 else 1

set_option maxHeartbeats 400000 in
theorem checkSize_any (n : Int) (w : World) : Calls Tryz.prog 37 #[.int .i64 n] w fun e w' => e = .returned (.int .i64 (sizeErrM n)) ∧ w = w' := by
  by_cases h0 : n < 1
  · have d0 : decide (n < 1) = true := decide_eq_true h0
    have HV := hid (show (1 : Int) = sizeErrM n by unfold sizeErrM; rw [show sizeOk n = false from decide_eq_false (by omega)]; rfl)
    clear h0
    go_enter Tryz.func37, Tryz.ntmps37
    go_wp2
    go_ret
    exact ⟨ret_int HV.out, rfl⟩
  · have d0 : decide (n < 1) = false := decide_eq_false h0
    by_cases h1 : 4096 < n
    · have d1 : decide (4096 < n) = true := decide_eq_true h1
      have HV := hid (show (1 : Int) = sizeErrM n by unfold sizeErrM; rw [show sizeOk n = false from decide_eq_false (by omega)]; rfl)
      clear h0 h1
      go_enter Tryz.func37, Tryz.ntmps37
      go_wp2
      go_ret
      exact ⟨ret_int HV.out, rfl⟩
    · have d1 : decide (4096 < n) = false := decide_eq_false h1
      have HV := hid (show (0 : Int) = sizeErrM n by unfold sizeErrM; rw [show sizeOk n = true from decide_eq_true (by omega)]; rfl)
      clear h0 h1
      go_enter Tryz.func37, Tryz.ntmps37
      go_wp2
      go_ret
      exact ⟨ret_int HV.out, rfl⟩

set_option maxHeartbeats 400000 in
theorem checkVersion_any (v : Int) (w : World) : Calls Tryz.prog 38 #[.int .i64 v] w fun e w' => e = .returned (.int .i64 (verErr v)) ∧ w = w' := by
  by_cases h0 : v < 0
  · have d0 : decide (v < 0) = true := decide_eq_true h0
    have HV := hid (show (1 : Int) = verErr v by unfold verErr; rw [show verOk v = false from decide_eq_false (by omega)]; rfl)
    clear h0
    go_enter Tryz.func38, Tryz.ntmps38
    go_wp2
    go_ret
    exact ⟨ret_int HV.out, rfl⟩
  · have d0 : decide (v < 0) = false := decide_eq_false h0
    by_cases h1 : 4 ≤ v
    · have d1 : decide (4 ≤ v) = true := decide_eq_true h1
      have HV := hid (show (1 : Int) = verErr v by unfold verErr; rw [show verOk v = false from decide_eq_false (by omega)]; rfl)
      clear h0 h1
      go_enter Tryz.func38, Tryz.ntmps38
      go_wp2
      go_ret
      exact ⟨ret_int HV.out, rfl⟩
    · have d1 : decide (4 ≤ v) = false := decide_eq_false h1
      have HV := hid (show (0 : Int) = verErr v by unfold verErr; rw [show verOk v = true from decide_eq_true (by omega)]; rfl)
      clear h0 h1
      go_enter Tryz.func38, Tryz.ntmps38
      go_wp2
      go_ret
      exact ⟨ret_int HV.out, rfl⟩

set_option maxHeartbeats 400000 in
theorem beginOf_any (n v : Nat) (w : World) (hn : n ≤ 4096) (hv : v ≤ 3) : Calls Tryz.prog 59 #[.int .i64 n, .int .i64 v] w fun e w' => e = .returned (.int .i64 ((v * n / 4 : Nat) : Int)) ∧ w = w' := by
  have hmul : (v : Int) * (n : Int) = ((v * n : Nat) : Int) := by simp
  have hnv : v * n ≤ 12288 := by
    have := Nat.mul_le_mul hv hn
    omega
  obtain ⟨p, ep⟩ : ∃ p, p = v * n := ⟨_, rfl⟩
  rw [← ep] at hmul hnv
  rw [← ep]
  have hquo : (p : Int).tdiv 4 = ((p / 4 : Nat) : Int) := by rw [Int.tdiv_eq_ediv_of_nonneg (by omega)]; simp
  have hwm : IntKind.i64.wrap ((v : Int) * (n : Int)) = (p : Int) := by rw [hmul, IntKind.wrap_i64]; omega
  clear ep hmul
  go_enter Tryz.func59, Tryz.ntmps59
  go_wp2
  go_ret
  exact ⟨rfl, rfl⟩
end Go.Proofs.YtdndeegpbjlibadGreatDoor
