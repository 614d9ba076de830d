import Derived.Test.YtmdfjhnibhmdkafDoorRegE
namespace Go.Proofs.YtmdfjhnibhmdkafDoor
open Go.ChangeShapes Go.WideShapes Go.ChangeAt Go.RowKit

/-! A REGION THAT DRAWS ITS ORDER, all of whose values are known; one operation changes blocks of S, and something is known of the world behind it. -/

theorem tbS_known {tb : List (Nat × Value)} {k : Nat} {σ : Nat → Value} (hk : tb.length = k) (h : ∀ j, j < k → σ j = (tb.getD j (0, undef)).2) : tbS (tb.map (·.1)) k σ = tb := by
  unfold tbS
  refine List.ext_getElem (by simp [hk]) fun i h1 h2 => ?_
  have hi : i < k := by omega
  simp only [List.getElem_map, List.getElem_range]
  rw [h i hi]
  simp [List.getD, h2]

set_option maxHeartbeats 1000000 in
theorem region_knownU {P : Program} {ops : Array Oper} {id : Nat} {l0 : List Value} {Q : Exit → Act → World → Prop} (n k u : Nat) (S : List Nat) (U : World → Prop) (tb : List (Nat × Value)) (reads : List (List Nat)) (par : List Nat) (wr : World) (hm : P.follows .mixedOrders = true) (hn : ops.size = n) (hkn : k < n)
    (hdk : tb.length = k) (hnd : (tb.map (·.1)).Nodup) (hdN : ((tb.map (·.1)).all fun s => decide (s < l0.length)) = true)
    (havail : ((List.range k).all fun i => (reads.getD i []).all fun s => (List.range k).all fun j => ((tb.map (·.1)).getD j 0 != s) || waitsFor ops i j) = true) (htopo : ((List.range n).all fun i => laterNone ops i) = true)
    (hrN : ((List.range k).all fun i => (reads.getD i []).all fun s => decide (s < l0.length)) = true)
    (hpar : ((List.range k).all fun j => decide (j < par.getD j 0) && (decide (par.getD j 0 ≤ k) && waitsFor ops (par.getD j 0) j)) = true) (htail : ((List.range n).all fun i => decide (i ≤ k) || waitsFor ops i (i - 1)) = true)
    (hU : ∀ w w', U w → Kept [] w w' → U w')
    (hstep : ∀ i, i < k → i ≠ u → ∀ (a : Act) (w : World), Kept S wr w → (∀ s ∈ reads.getD i [], a.eval (.tmp s) = lkp l0 tb s) → ∀ (Q : Exit → Act → World → Prop) (K : Act → World → Prop), (∀ w', Kept [] w w' → K (a.put (some (tb.getD i (0, undef)).1) (tb.getD i (0, undef)).2) w') → wpOp P ops Q i K a w)
    (hstepU : u < k → ∀ (a : Act) (w : World), Below wr.heap.size wr w → (∀ s ∈ reads.getD u [], a.eval (.tmp s) = lkp l0 tb s) → ∀ (Q : Exit → Act → World → Prop) (K : Act → World → Prop), (∀ w', Kept S w w' → U w' → K (a.put (some (tb.getD u (0, undef)).1) (tb.getD u (0, undef)).2) w') → wpOp P ops Q u K a w)
    (hlast : ∀ w, Kept S wr w → (u < k → U w) → tailWp P ops Q (List.range' k (n - k)) { tmps := (setAll l0 tb).toArray, defers := [] } w) :
    (Code.region id ops true).wp P Q { tmps := l0.toArray, defers := [] } wr := by
  have hfst : ∀ j, (tb.map (·.1)).getD j 0 = (tb.getD j (0, undef)).1 := fun j => by
    by_cases hj : j < tb.length
    · simp [List.getD, hj]
    · simp [List.getD, Nat.le_of_not_lt hj]
  have hrd : ∀ i, i < k → ∀ (σ : Nat → Value), (∀ j, j < k → waitsFor ops i j = true → σ j = (tb.getD j (0, undef)).2) → ∀ s ∈ reads.getD i [], lkp l0 (tbS (tb.map (·.1)) k σ) s = lkp l0 tb s := by
    intro i hi σ hσ s hs
    by_cases hex : ∃ j, j < k ∧ (tb.map (·.1)).getD j 0 = s
    · obtain ⟨j, hj, rfl⟩ := hex
      have h1 := List.all_eq_true.1 (List.all_eq_true.1 (List.all_eq_true.1 havail i (List.mem_range.2 hi)) _ hs) j (List.mem_range.2 hj)
      have hw : waitsFor ops i j = true := by simpa using h1
      rw [lkp_tbS σ (by simp [hdk]) hnd hj, hσ j hj hw, hfst, lkp_at l0 tb hnd j (by omega)]
    · rw [lkp_tbS_none σ (fun j hj e => hex ⟨j, hj, e⟩)]
      refine (lkp_none tb s fun q hq e => ?_).symm
      obtain ⟨j, hj, rfl⟩ := List.getElem_of_mem hq
      exact hex ⟨j, by omega, by rw [hfst]; simp [List.getD, hj]; exact e⟩
  refine region_sigU n k u S (tb.map (·.1)) reads par (fun j σ w => σ j = (tb.getD j (0, undef)).2 ∧ (j = u → U w)) wr hm hn hkn (by simp [hdk]) hnd hdN havail htopo hrN hpar htail ?_ ?_ ?_ ?_ ?_
  · intro j _ σ σ' w he h
    exact ⟨(he j (Or.inl rfl)).symm.trans h.1, h.2⟩
  · intro j σ w w' h hk
    exact ⟨h.1, fun e => hU w w' (h.2 e) hk⟩
  · intro j σ w w' hju h _
    exact ⟨h.1, fun e => absurd e hju⟩
  · intro i hi σ a w hk hb hp hr Q K hK
    have hr' : ∀ s ∈ reads.getD i [], a.eval (.tmp s) = lkp l0 tb s := fun s hs => (hr s hs).trans (hrd i hi σ (fun j hj hw => (hp j hj hw).1) s hs)
    by_cases hiu : i = u
    · subst hiu
      refine hstepU hi a w (hb rfl) hr' Q K (fun w' hk' hu => ?_)
      have := hK (tb.getD i (0, undef)).2 w' (by rw [if_pos rfl]; exact hk') (fun σ' _ hσ' => ⟨hσ', fun _ => hu⟩)
      rw [hfst] at this
      exact this
    · refine hstep i hi hiu a w hk hr' Q K (fun w' hk' => ?_)
      have := hK (tb.getD i (0, undef)).2 w' (by rw [if_neg hiu]; exact hk') (fun σ' _ hσ' => ⟨hσ', fun e => absurd e hiu⟩)
      rw [hfst] at this
      exact this
  · intro σ w hk hp
    rw [tbS_known hdk (fun j hj => (hp j hj).1)]
    exact hlast w hk (fun hu => (hp u hu).2 rfl)

theorem keptU (w : World) : Kept [] w w := Kept.refl _ w
end Go.Proofs.YtmdfjhnibhmdkafDoor
