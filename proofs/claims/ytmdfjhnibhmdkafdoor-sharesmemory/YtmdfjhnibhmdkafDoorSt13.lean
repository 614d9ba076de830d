import Derived.Test.YtmdfjhnibhmdkafDoorSt11
import Derived.Test.YtmdfjhnibhmdkafDoorSt12
import Derived.Shelf.Abstract
import Derived.Test.YtmdfjhnibhmdkafDoorSt09
import Derived.Maps.OwnSet
import Derived.Maps.OwnOps
import Derived.Laws.ResultCell
import Derived.BigRegion
namespace Go.Proofs.YtmdfjhnibhmdkafDoor
open Go.ChangeShapes Go.WideShapes Go.ChangeAt Go.RowKit
set_option maxHeartbeats 1000000 in
theorem region_knownL {P : Program} {ops : Array Oper} {id : Nat} {l0 : List Value} {Q : Exit → Act → World → Prop} (n k : Nat) (s0 : Nat) (v0 : Value) (post : List (Nat × Value)) (reads : List (List Nat)) (par : List Nat) (wr : World) (hm : P.follows .mixedOrders = true) (hn : ops.size = n) (hkn : k < n)
    (hdk : 0 + 1 + post.length = k) (hnd : (((s0, v0) :: post).map (·.1)).Nodup) (hdN : (((s0, v0) :: post).all fun q => decide (q.1 < l0.length)) = true)
    (havail : ((List.range k).all fun i => (reads.getD i []).all fun s => (List.range k).all fun j => ((((s0, undef) :: post).getD j (0, undef)).1 != s) || waitsFor ops i j) = true) (htopo : ((List.range n).all fun i => laterNone ops i) = true)
    (hrN : ((List.range k).all fun i => (reads.getD i []).all fun s => decide (s < l0.length)) = true)
    (hpar : ((List.range k).all fun j => decide (j < par.getD j 0) && (decide (par.getD j 0 ≤ k) && waitsFor ops (par.getD j 0) j)) = true)
    (htail : ((List.range n).all fun i => decide (i ≤ k) || waitsFor ops i (i - 1)) = true)
    (hstep : ∀ i, i < k → ∀ (a : Act) (w : World), Below wr.heap.size wr w → (∀ s ∈ reads.getD i [], a.eval (.tmp s) = lkp l0 ((s0, v0) :: post) s) → ∀ (Q : Exit → Act → World → Prop) (K : Act → World → Prop), (∀ w', w.grownBy w' none → K (a.put (some (((s0, v0) :: post).getD i (0, undef)).1) (((s0, v0) :: post).getD i (0, undef)).2) w') → wpOp P ops Q i K a w)
    (hlast : ∀ w, Below wr.heap.size wr w → tailWp P ops Q (List.range' k (n - k)) { tmps := (setAll l0 ((s0, v0) :: post)).toArray, defers := [] } w) :
    (Code.region id ops true).wp P Q { tmps := l0.toArray, defers := [] } wr := by
  refine region_growU n k 0 [] s0 post reads par (fun x _ => x = v0) wr hm hn hkn rfl hdk hnd hdN havail htopo hrN hpar htail (fun _ _ _ h _ => h) ?_ ?_
  · intro i hi x a w hb hx hr Q K hK1 hK
    refine hstep i hi a w hb (fun s hs => ?_) Q K (fun w' hg => ?_)
    · rw [hr s hs]
      by_cases e : s = s0
      · subst e
        rw [hx hs]
        rfl
      · exact lkp_mid s0 post x v0 [] s e
    · by_cases e : i = 0
      · subst e
        exact hK1 rfl v0 w' hg rfl
      · have := hK e w' hg
        obtain ⟨j, rfl⟩ : ∃ j, i = j + 1 := ⟨i - 1, by omega⟩
        exact this
  · intro x w hb hx
    subst hx
    exact hlast w hb
theorem run_assignL {ρ : Operand → Value} {P : Program} (w : World) {o : Oper} {x : Operand} {v : Value} (ho : o.op = .assign x) (h : ρ x = v) : (execOp ρ o).run P w = .ok (.value v) w := by
  unfold execOp
  simp only [ho, h]
  simp [go_sem]
def RsAt (Rs : List (Value → World → Prop)) (j : Nat) : Value → World → Prop := Rs.getD j fun _ _ => True
def MonoR (R : Value → World → Prop) : Prop := ∀ x w w', R x w → w.grownBy w' none → R x w'
theorem rsAt_mono {Rs : List (Value → World → Prop)} (h : ∀ R ∈ Rs, MonoR R) (j : Nat) (x : Value) (w w' : World) (hx : RsAt Rs j x w) (hg : w.grownBy w' none) : RsAt Rs j x w' := by
  unfold RsAt at *
  by_cases hj : j < Rs.length
  · have e : Rs.getD j (fun _ _ => True) = Rs[j] := by simp [List.getD, hj]
    rw [e] at hx ⊢
    exact h _ (List.getElem_mem hj) x w w' hx hg
  · have e : Rs.getD j (fun _ _ => True) = fun _ _ => True := by simp [List.getD, Nat.le_of_not_lt hj]
    rw [e]
    trivial
theorem region_each {P : Program} {ops : Array Oper} {id : Nat} {l0 : List Value} {Q : Exit → Act → World → Prop} (n k : Nat) (dst : List Nat) (reads : List (List Nat)) (par : List Nat) (Rs : List (Value → World → Prop)) (wr : World) (hm : P.follows .mixedOrders = true) (hn : ops.size = n) (hkn : k < n)
    (hdk : dst.length = k) (hnd : dst.Nodup) (hdN : (dst.all fun s => decide (s < l0.length)) = true)
    (havail : ((List.range k).all fun i => (reads.getD i []).all fun s => (List.range k).all fun j => (dst.getD j 0 != s) || waitsFor ops i j) = true) (htopo : ((List.range n).all fun i => laterNone ops i) = true)
    (hrN : ((List.range k).all fun i => (reads.getD i []).all fun s => decide (s < l0.length)) = true)
    (hpar : ((List.range k).all fun j => decide (j < par.getD j 0) && (decide (par.getD j 0 ≤ k) && waitsFor ops (par.getD j 0) j)) = true) (htail : ((List.range n).all fun i => decide (i ≤ k) || waitsFor ops i (i - 1)) = true)
    (hmono : ∀ R ∈ Rs, MonoR R)
    (hstep : ∀ i, i < k → ∀ (σ : Nat → Value) (a : Act) (w : World), Below wr.heap.size wr w → (∀ j, j < k → waitsFor ops i j = true → RsAt Rs j (σ j) w) → (∀ s ∈ reads.getD i [], a.eval (.tmp s) = lkp l0 (tbS dst k σ) s) → ∀ (Q : Exit → Act → World → Prop) (K : Act → World → Prop), (∀ x w', w.grownBy w' none → RsAt Rs i x w' → K (a.put (some (dst.getD i 0)) x) w') → wpOp P ops Q i K a w)
    (hlast : ∀ (σ : Nat → Value) w, Below wr.heap.size wr w → (∀ j, j < k → RsAt Rs j (σ j) w) → tailWp P ops Q (List.range' k (n - k)) { tmps := (setAll l0 (tbS dst k σ)).toArray, defers := [] } w) :
    (Code.region id ops true).wp P Q { tmps := l0.toArray, defers := [] } wr :=
  region_sig n k dst reads par (fun j σ w => RsAt Rs j (σ j) w) wr hm hn hkn hdk hnd hdN havail htopo hrN hpar htail
    (fun j _ σ σ' w he h => by have e := he j (Or.inl rfl); show RsAt Rs j (σ' j) w; rw [← e]; exact h) (fun j σ w w' h hg => rsAt_mono hmono j (σ j) w w' h hg)
    (fun i hi σ a w hb hp hr Q K hK => hstep i hi σ a w hb hp hr Q K (fun x w' hg hx => hK x w' hg (fun σ' _ e => by show RsAt Rs i (σ' i) w'; rw [e]; exact hx))) hlast
theorem op_skipL {P : Program} {ops : Array Oper} {Q : Exit → Act → World → Prop} {i : Nat} {o : Oper} {a : Act} {w w' : World} {K : Act → World → Prop} (hi : ops[i]? = some o) (hg : o.guard = none)
    (hrun : (execOp a.eval o).run P w = .ok .skip w') (hK : K (a.put o.dst undef) w') : wpOp P ops Q i K a w := by
  unfold wpOp
  rw [hi]
  have hw : Region.wanted o (yielded ops a.tmps) = true := by simp [Region.wanted, hg]
  simp only [hw, if_true, Oper.wp]
  left
  rw [hrun]
  exact hK
end Go.Proofs.YtmdfjhnibhmdkafDoor
namespace Go.Proofs.YtmdfjhnibhmdkafDoor
open Go.ChangeShapes Go.WideShapes Go.ChangeAt Go.RowKit
theorem tbS_known {tb : List (Nat × Value)} {k : Nat} {σ : Nat → Value} (hk : tb.length = k) (h : ∀ j, j < k → σ j = (tb.getD j (0, undef)).2) : tbS (tb.map (·.1)) k σ = tb := by
  unfold tbS
  refine List.ext_getElem (by simp [hk]) fun i h1 h2 => ?_
  have hi : i < k := by omega
  simp only [List.getElem_map, List.getElem_range]
  rw [h i hi]
  simp [List.getD, h2]
set_option maxHeartbeats 1000000 in
theorem region_knownU {P : Program} {ops : Array Oper} {id : Nat} {l0 : List Value} {Q : Exit → Act → World → Prop} (n k u : Nat) (S : List Nat) (U : World → Prop) (tb : List (Nat × Value)) (reads : List (List Nat)) (par : List Nat) (wr : World) (hm : P.follows .mixedOrders = true) (hn : ops.size = n) (hkn : k < n)
    (hdk : tb.length = k) (hnd : (tb.map (·.1)).Nodup) (hdN : ((tb.map (·.1)).all fun s => decide (s < l0.length)) = true)
    (havail : ((List.range k).all fun i => (reads.getD i []).all fun s => (List.range k).all fun j => ((tb.map (·.1)).getD j 0 != s) || waitsFor ops i j) = true) (htopo : ((List.range n).all fun i => laterNone ops i) = true)
    (hrN : ((List.range k).all fun i => (reads.getD i []).all fun s => decide (s < l0.length)) = true)
    (hpar : ((List.range k).all fun j => decide (j < par.getD j 0) && (decide (par.getD j 0 ≤ k) && waitsFor ops (par.getD j 0) j)) = true) (htail : ((List.range n).all fun i => decide (i ≤ k) || waitsFor ops i (i - 1)) = true)
    (hU : ∀ w w', U w → Kept [] w w' → U w')
    (hstep : ∀ i, i < k → i ≠ u → ∀ (a : Act) (w : World), Kept S wr w → (∀ s ∈ reads.getD i [], a.eval (.tmp s) = lkp l0 tb s) → ∀ (Q : Exit → Act → World → Prop) (K : Act → World → Prop), (∀ w', Kept [] w w' → K (a.put (some (tb.getD i (0, undef)).1) (tb.getD i (0, undef)).2) w') → wpOp P ops Q i K a w)
    (hstepU : u < k → ∀ (a : Act) (w : World), Below wr.heap.size wr w → (∀ s ∈ reads.getD u [], a.eval (.tmp s) = lkp l0 tb s) → ∀ (Q : Exit → Act → World → Prop) (K : Act → World → Prop), (∀ w', Kept S w w' → U w' → K (a.put (some (tb.getD u (0, undef)).1) (tb.getD u (0, undef)).2) w') → wpOp P ops Q u K a w)
    (hlast : ∀ w, Kept S wr w → (u < k → U w) → tailWp P ops Q (List.range' k (n - k)) { tmps := (setAll l0 tb).toArray, defers := [] } w) :
    (Code.region id ops true).wp P Q { tmps := l0.toArray, defers := [] } wr := by
  have hfst : ∀ j, (tb.map (·.1)).getD j 0 = (tb.getD j (0, undef)).1 := fun j => by
    by_cases hj : j < tb.length
    · simp [List.getD, hj]
    · simp [List.getD, Nat.le_of_not_lt hj]
  have hrd : ∀ i, i < k → ∀ (σ : Nat → Value), (∀ j, j < k → waitsFor ops i j = true → σ j = (tb.getD j (0, undef)).2) → ∀ s ∈ reads.getD i [], lkp l0 (tbS (tb.map (·.1)) k σ) s = lkp l0 tb s := by
    intro i hi σ hσ s hs
    by_cases hex : ∃ j, j < k ∧ (tb.map (·.1)).getD j 0 = s
    · obtain ⟨j, hj, rfl⟩ := hex
      have h1 := List.all_eq_true.1 (List.all_eq_true.1 (List.all_eq_true.1 havail i (List.mem_range.2 hi)) _ hs) j (List.mem_range.2 hj)
      have hw : waitsFor ops i j = true := by simpa using h1
      rw [lkp_tbS σ (by simp [hdk]) hnd hj, hσ j hj hw, hfst, lkp_at l0 tb hnd j (by omega)]
    · rw [lkp_tbS_none σ (fun j hj e => hex ⟨j, hj, e⟩)]
      refine (lkp_none tb s fun q hq e => ?_).symm
      obtain ⟨j, hj, rfl⟩ := List.getElem_of_mem hq
      exact hex ⟨j, by omega, by rw [hfst]; simp [List.getD, hj]; exact e⟩
  refine region_sigU n k u S (tb.map (·.1)) reads par (fun j σ w => σ j = (tb.getD j (0, undef)).2 ∧ (j = u → U w)) wr hm hn hkn (by simp [hdk]) hnd hdN havail htopo hrN hpar htail ?_ ?_ ?_ ?_ ?_
  · intro j _ σ σ' w he h
    exact ⟨(he j (Or.inl rfl)).symm.trans h.1, h.2⟩
  · intro j σ w w' h hk
    exact ⟨h.1, fun e => hU w w' (h.2 e) hk⟩
  · intro j σ w w' hju h _
    exact ⟨h.1, fun e => absurd e hju⟩
  · intro i hi σ a w hk hb hp hr Q K hK
    have hr' : ∀ s ∈ reads.getD i [], a.eval (.tmp s) = lkp l0 tb s := fun s hs => (hr s hs).trans (hrd i hi σ (fun j hj hw => (hp j hj hw).1) s hs)
    by_cases hiu : i = u
    · subst hiu
      refine hstepU hi a w (hb rfl) hr' Q K (fun w' hk' hu => ?_)
      have := hK (tb.getD i (0, undef)).2 w' (by rw [if_pos rfl]; exact hk') (fun σ' _ hσ' => ⟨hσ', fun _ => hu⟩)
      rw [hfst] at this
      exact this
    · refine hstep i hi hiu a w hk hr' Q K (fun w' hk' => ?_)
      have := hK (tb.getD i (0, undef)).2 w' (by rw [if_neg hiu]; exact hk') (fun σ' _ hσ' => ⟨hσ', fun e => absurd e hiu⟩)
      rw [hfst] at this
      exact this
  · intro σ w hk hp
    rw [tbS_known hdk (fun j hj => (hp j hj).1)]
    exact hlast w hk (fun hu => (hp u hu).2 rfl)
theorem keptU (w : World) : Kept [] w w := Kept.refl _ w
end Go.Proofs.YtmdfjhnibhmdkafDoor
namespace Go.Proofs.YtmdfjhnibhmdkafDoor
open Go.ChangeShapes Go.WideShapes Go.ChangeAt Go.RowKit
structure TryM where
  busy : Bool
  flag : Bool
  opn : Bool
  data : ByteArray
  tries : Nat
def TryM.zero : TryM := ⟨false, false, false, ByteArray.empty, 0⟩
/-- A block that is tried, as the program's map holds it. -/
def TryM.blk (t : TryM) : Value := .agg #[.string t.data, .int .i64 t.tries, .bool t.opn]
def TryM.cells (t : TryM) : List Value := [.bool t.busy, .bool t.flag, .bool t.opn, .string t.data, .int .i64 t.tries]
structure SendM where
  limit : Nat
  p : List TryM
def SendM.new (l : Nat) : SendM := ⟨l, List.replicate 8 TryM.zero⟩
def SendM.tat (m : SendM) (k : Nat) : TryM := m.p.getD k TryM.zero
def TryM.right (limit : Nat) (t : TryM) : Prop := t.busy = true → (t.opn = true → 1 ≤ t.tries ∧ t.tries ≤ limit) ∧ (t.opn = false → t.tries < limit)
structure SendM.Ok (m : SendM) : Prop where
  len : m.p.length = 8
  low : 1 ≤ m.limit
  high : m.limit ≤ 8
  each : ∀ k, k < 8 → (m.tat k).right m.limit
def SendM.set (m : SendM) (k : Nat) (t : TryM) : SendM := ⟨m.limit, m.p.set k t⟩
theorem SendM.tat_set {m : SendM} (h : m.p.length = 8) {k : Nat} (hk : k < 8) (t : TryM) (j : Nat) : (m.set k t).tat j = if j = k then t else m.tat j := by
  unfold SendM.tat SendM.set
  by_cases e : j = k
  · subst e
    simp [List.getD, h, hk]
  · have e' : k ≠ j := fun h => e h.symm
    simp [List.getD, e, e']
theorem SendM.Ok.set {m : SendM} (h : m.Ok) {k : Nat} (hk : k < 8) {t : TryM} (ht : t.right m.limit) : (m.set k t).Ok := by
  refine ⟨by simp [SendM.set, h.len], h.low, h.high, fun j hj => ?_⟩
  rw [SendM.tat_set h.len hk]
  split
  · exact ht
  · exact h.each j hj
theorem SendM.new_ok {l : Nat} (h1 : 1 ≤ l) (h8 : l ≤ 8) : (SendM.new l).Ok := by
  refine ⟨by simp [SendM.new], h1, h8, fun k hk => ?_⟩
  have e : (SendM.new l).tat k = TryM.zero := by
    simp only [SendM.tat, SendM.new, List.getD, List.getElem?_replicate]
    split <;> rfl
  rw [e]
  intro h
  cases h
/-- How many processes have a block. -/
def SendM.busyN (m : SendM) : Nat := m.p.countP (·.busy)
theorem SendM.busyN_le {m : SendM} (h : m.p.length = 8) : m.busyN ≤ 8 := by rw [← h]; exact List.countP_le_length
theorem SendM.busyN_set {m : SendM} (h : m.p.length = 8) {k : Nat} (hk : k < 8) (t : TryM) : (m.set k t).busyN + (if (m.tat k).busy then 1 else 0) = m.busyN + (if t.busy then 1 else 0) := by
  have hk' : k < m.p.length := by omega
  have e : m.tat k = m.p[k] := by simp [SendM.tat, List.getD, hk']
  rw [e]
  have hc := List.countP_set (p := fun x : TryM => x.busy) (l := m.p) (i := k) (a := t) hk'
  show List.countP _ (m.p.set k t) + _ = List.countP _ m.p + _
  rw [hc]
  have h1 : (if m.p[k].busy = true then 1 else 0) ≤ List.countP (fun x : TryM => x.busy) m.p := by
    split
    · rename_i hb
      exact List.countP_pos_iff.2 ⟨m.p[k], List.getElem_mem hk', hb⟩
    · omega
  omega
/-- The least process that is free; 8, if none is. -/
def SendM.least (m : SendM) : Nat := m.p.findIdx (fun t => !t.busy)
theorem SendM.least_le {m : SendM} (h : m.p.length = 8) : m.least ≤ 8 := by rw [← h]; exact List.findIdx_le_length
theorem SendM.least_free {m : SendM} (h : m.p.length = 8) (hl : m.least < 8) : (m.tat m.least).busy = false := by
  have hk : m.p.findIdx (fun t => !t.busy) < m.p.length := by rw [h]; exact hl
  have := List.findIdx_getElem (p := fun t : TryM => !t.busy) (xs := m.p) (w := hk)
  have e : m.tat m.least = m.p[m.least] := by simp [SendM.tat, List.getD, SendM.least, hk]
  rw [e]
  simpa [SendM.least] using this
theorem SendM.least_busy {m : SendM} (h : m.p.length = 8) {j : Nat} (hj : j < m.least) : (m.tat j).busy = true := by
  have h1 := List.not_of_lt_findIdx (p := fun t : TryM => !t.busy) (xs := m.p) (i := j) hj
  have hj8 : j < m.p.length := by have := SendM.least_le h; omega
  have e : m.tat j = m.p[j] := by simp [SendM.tat, List.getD, hj8]
  rw [e]
  simpa using h1
theorem SendM.least_eq {m : SendM} (h : m.p.length = 8) {k : Nat} (hk : k < 8) (hb : ∀ j, j < k → (m.tat j).busy = true) (hf : (m.tat k).busy = false) : m.least = k := by
  rcases Nat.lt_trichotomy m.least k with h1 | h1 | h1
  · have := SendM.least_free h (by omega)
    rw [hb _ h1] at this
    cases this
  · exact h1
  · have := SendM.least_busy h h1
    rw [hf] at this
    cases this
theorem SendM.least_none {m : SendM} (h : m.p.length = 8) (hb : ∀ j, j < 8 → (m.tat j).busy = true) : m.least = 8 := by
  have h8 := SendM.least_le h
  rcases Nat.lt_or_ge m.least 8 with h1 | h1
  · have := SendM.least_free h h1
    rw [hb _ h1] at this
    cases this
  · omega
def TryM.tried (t : TryM) : TryM := ⟨t.busy, t.flag, true, t.data, t.tries + 1⟩
def SendM.done (m : SendM) (k : Nat) (yes : Bool) : Bool := yes || decide (m.limit ≤ (m.tat k).tries)
def TryM.given (t : TryM) (d : ByteArray) : TryM := ⟨true, !t.flag, false, d, 0⟩
theorem given_right {m : SendM} (h : m.Ok) (t : TryM) (d : ByteArray) : (t.given d).right m.limit := fun _ => ⟨fun e => (by cases e), fun _ => h.low⟩
end Go.Proofs.YtmdfjhnibhmdkafDoor
namespace Go.Proofs.YtmdfjhnibhmdkafDoor
open Go.ChangeShapes Go.WideShapes Go.ChangeAt Go.RowKit Go.Maps
def heldElem (v : Value) : Option (DataW Value × List MemPlace) := some (.held v, [])
theorem Tryd.lawI : Keyed Tryd.prog 3 := int_keyed Tryd.underlying3
theorem Tryd.zeroB (w : World) : (zeroValue 100).run Tryd.prog w = .ok (.agg #[.string { data := #[] }, .int .i64 0, .bool false]) w := by kernel_rfl
theorem keyI {k : Nat} (h : k < 8) : keyOf Tryd.prog 3 (.int .i64 (k : Int)) = some (.int .i64 (k : Int)) := keyOf_int_mk Tryd.underlying3 (WalkArith.wf_i64 (by omega))
theorem keyLitI (k : Int) : WideAt.IsKeyLit (.int .i64 k) := by simp [WideAt.IsKeyLit]
theorem litI_ne {j k : Nat} (h : j ≠ k) : Lit.int .i64 (j : Int) ≠ Lit.int .i64 (k : Int) := by
  intro e
  injection e with _ e
  exact h (by omega)
/-- A block that is the map of a sender's blocks. -/
def BlkMap (w : World) (bm : Nat) (m : SendM) : Prop := ∃ D : DataW Value, w.ownsMap Tryd.prog 3 heldElem bm 8 D ∧ Maps.size D = m.busyN ∧ ∀ k : Nat, k < 8 → Maps.has D (.int .i64 (k : Int)) = (m.tat k).busy ∧ ((m.tat k).busy = true → ∀ z, D.atKey (.int .i64 (k : Int)) z = .held (m.tat k).blk)
theorem ownsMap_tight {w : World} {P : Program} {k : TypeId} {R : Value → Option (DataW Value × List MemPlace)} {b n n' : Nat} {D : DataW Value} (h : w.ownsMap P k R b n D) (hs : Maps.size D ≤ n') : w.ownsMap P k R b n' D := by
  obtain ⟨es, clock, hb, F, _, rfl⟩ := h
  refine ⟨es, clock, hb, F, ?_, rfl⟩
  simpa [Maps.size, length_sorted] using hs
theorem BlkMap.same {w w' : World} {bm : Nat} {m : SendM} (h : BlkMap w bm m) (e : w'.heap[bm]? = w.heap[bm]?) : BlkMap w' bm m := by
  obtain ⟨D, ⟨es, clock, hb, F, hs, hD⟩, r⟩ := h
  exact ⟨D, ⟨es, clock, by rw [e]; exact hb, F, hs, hD⟩, r⟩
theorem BlkMap.lt {w : World} {bm : Nat} {m : SendM} (h : BlkMap w bm m) : bm < w.heap.size := by
  obtain ⟨D, h, _⟩ := h
  exact World.ownsMap.lt h
theorem BlkMap.made (w : World) (l : Nat) : BlkMap (w.alloc (.map #[] 0)) w.heap.size (SendM.new l) := by
  refine ⟨.map [], ownsMap_tight (World.ownsMap_made w _ _ _) (by simp [Maps.size]), ?_, fun k hk => ?_⟩
  · show 0 = List.countP _ (List.replicate 8 TryM.zero)
    decide
  · have e : (SendM.new l).tat k = TryM.zero := by
      simp only [SendM.tat, SendM.new, List.getD, List.getElem?_replicate]
      split <;> rfl
    rw [e]
    exact ⟨rfl, fun h => by cases h⟩
/-- What comes of laying a block by its process. -/
theorem BlkMap.put {w w' : World} {bm : Nat} {m : SendM} {D : DataW Value} {n : Nat} (hm : m.p.length = 8) {k : Nat} (hk : k < 8) (t : TryM) (ht : t.busy = true) (ho : w.ownsMap Tryd.prog 3 heldElem bm 8 D) (hs : Maps.size D = m.busyN) (hD : ∀ k : Nat, k < 8 → Maps.has D (.int .i64 (k : Int)) = (m.tat k).busy ∧ ((m.tat k).busy = true → ∀ z, D.atKey (.int .i64 (k : Int)) z = .held (m.tat k).blk))
    (h : w'.ownsMap Tryd.prog 3 heldElem bm n (D.put (.int .i64 (k : Int)) (.held t.blk))) : BlkMap w' bm (m.set k t) := by
  have hsz : Maps.size (D.put (.int .i64 (k : Int)) (.held t.blk)) = (m.set k t).busyN := by
    rw [size_put (ho.tidy Tryd.lawI), (hD k hk).1, hs]
    have := SendM.busyN_set hm hk t
    rw [ht] at this
    split
    · rename_i hb
      rw [hb] at this
      simp at this
      omega
    · rename_i hb
      rw [Bool.not_eq_true] at hb
      rw [hb] at this
      simp at this
      omega
  refine ⟨_, ownsMap_tight h (by rw [hsz]; exact SendM.busyN_le (by simp [SendM.set, hm])), hsz, fun j hj => ?_⟩
  rw [SendM.tat_set hm hk]
  by_cases e : j = k
  · subst e
    rw [if_pos rfl, has_put_same ho.isMap (keyLitI _), ht]
    exact ⟨rfl, fun _ z => atKey_put_same ho.isMap (keyLitI _) _ _⟩
  · rw [if_neg e, has_put_other (litI_ne e)]
    exact ⟨(hD j hj).1, fun hb z => by rw [atKey_put_other (litI_ne e)]; exact (hD j hj).2 hb z⟩
/-- What a look at the map tells. -/
theorem held_inj {v : Value} {x : DataW Value} {ps : List MemPlace} (h : heldElem v = some (x, ps)) : x = .held v := by
  unfold heldElem at h
  simp at h
  exact h.1.symm
/-- The cells of the program's sender. -/
def sendCells (m : SendM) (bm : Nat) : Array Value := (Value.int .i64 m.limit :: m.p.map (fun t => Value.bool t.flag) ++ [Value.map (some bm)]).toArray
def PSend (w : World) (g bm : Nat) (m : SendM) : Prop := w.heap[g]? = some (.cells (sendCells m bm) 97 (0, 0)) ∧ BlkMap w bm m ∧ m.Ok
theorem PSend.lt {w : World} {g bm : Nat} {m : SendM} (h : PSend w g bm m) : g < w.heap.size := (Array.getElem?_eq_some_iff.1 h.1).1
theorem PSend.ne {w : World} {g bm : Nat} {m : SendM} (h : PSend w g bm m) : g ≠ bm := by
  rintro rfl
  obtain ⟨D, ⟨es, clock, hb, _⟩, _⟩ := h.2.1
  rw [h.1] at hb
  cases hb
theorem PSend.old {w w' : World} {g bm : Nat} {m : SendM} (h : PSend w g bm m) (hb : Below w.heap.size w w') : PSend w' g bm m := ⟨(hb.block g h.lt).trans h.1, h.2.1.same (hb.block bm h.2.1.lt), h.2.2⟩
theorem PSend.kept {w w' : World} {g bm : Nat} {m : SendM} {S : List Nat} (h : PSend w g bm m) (hk : Kept S w w') (h1 : g ∉ S) (h2 : bm ∉ S) : PSend w' g bm m := ⟨(hk.block g h.lt h1).trans h.1, h.2.1.same (hk.block bm h.2.1.lt h2), h.2.2⟩
theorem PSend.drew {w : World} {g bm : Nat} {m : SendM} (h : PSend w g bm m) : PSend w.drew g bm m := ⟨h.1, h.2.1.same rfl, h.2.2⟩
theorem PSend.limit {w : World} {g bm : Nat} {m : SendM} (h : PSend w g bm m) : w.cell? ⟨g, 0, none⟩ = some (.int .i64 m.limit) := by
  rw [cell_of_row _ _ _ _ _ _ h.1]
  simp [sendCells]
theorem PSend.flag {w : World} {g bm : Nat} {m : SendM} (h : PSend w g bm m) {k : Nat} (hk : k < 8) : w.cell? ⟨g, 1 + k, none⟩ = some (.bool (m.tat k).flag) := by
  have hl := h.2.2.len
  have hk' : k < m.p.length := by omega
  rw [cell_of_row _ _ _ _ _ _ h.1]
  simp [sendCells, SendM.tat, List.getD, hk', Nat.add_comm 1 k, List.getElem?_append_left]
theorem PSend.map {w : World} {g bm : Nat} {m : SendM} (h : PSend w g bm m) : w.cell? ⟨g, 9, none⟩ = some (.map (some bm)) := by
  have hl := h.2.2.len
  rw [cell_of_row _ _ _ _ _ _ h.1]
  simp [sendCells, hl]
theorem PSend.free {w : World} {g bm : Nat} {m : SendM} (h : PSend w g bm m) (k : Nat) : w.frozen? ⟨g, k, none⟩ = false := frozen_of_row w g k _ _ h.1
end Go.Proofs.YtmdfjhnibhmdkafDoor
