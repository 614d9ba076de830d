import Derived.Test.YtbjgfoiikhbonafK29
import Derived.Test.YtbjgfoiikhbonafK30
import Derived.Shelf.Abstract
import Derived.Test.YtbjgfoiikhbonafK28
import Derived.Test.YtbjgfoiikhbonafK23
set_option linter.unusedVariables false
set_option linter.unusedSimpArgs false
namespace Go.Proofs.Ytbjgfoiikhbonaf
open Go.ChangeShapes Go.WideShapes Go.ChangeAt Go.RowKit
set_option maxHeartbeats 1000000 in
theorem region_knownL {P : Program} {ops : Array Oper} {id : Nat} {l0 : List Value} {Q : Exit → Act → World → Prop} (n k : Nat) (s0 : Nat) (v0 : Value) (post : List (Nat × Value)) (reads : List (List Nat)) (par : List Nat) (wr : World) (hm : P.follows .mixedOrders = true) (hn : ops.size = n) (hkn : k < n)
    (hdk : 0 + 1 + post.length = k) (hnd : (((s0, v0) :: post).map (·.1)).Nodup) (hdN : (((s0, v0) :: post).all fun q => decide (q.1 < l0.length)) = true)
    (havail : ((List.range k).all fun i => (reads.getD i []).all fun s => (List.range k).all fun j => ((((s0, undef) :: post).getD j (0, undef)).1 != s) || waitsFor ops i j) = true) (htopo : ((List.range n).all fun i => laterNone ops i) = true)
    (hrN : ((List.range k).all fun i => (reads.getD i []).all fun s => decide (s < l0.length)) = true)
    (hpar : ((List.range k).all fun j => decide (j < par.getD j 0) && (decide (par.getD j 0 ≤ k) && waitsFor ops (par.getD j 0) j)) = true)
    (htail : ((List.range n).all fun i => decide (i ≤ k) || waitsFor ops i (i - 1)) = true)
    (hstep : ∀ i, i < k → ∀ (a : Act) (w : World), Below wr.heap.size wr w → (∀ s ∈ reads.getD i [], a.eval (.tmp s) = lkp l0 ((s0, v0) :: post) s) → ∀ (Q : Exit → Act → World → Prop) (K : Act → World → Prop), (∀ w', w.grownBy w' none → K (a.put (some (((s0, v0) :: post).getD i (0, undef)).1) (((s0, v0) :: post).getD i (0, undef)).2) w') → wpOp P ops Q i K a w)
    (hlast : ∀ w, Below wr.heap.size wr w → tailWp P ops Q (List.range' k (n - k)) { tmps := (setAll l0 ((s0, v0) :: post)).toArray, defers := [] } w) :
    (Code.region id ops true).wp P Q { tmps := l0.toArray, defers := [] } wr := by
  refine region_growU n k 0 [] s0 post reads par (fun x _ => x = v0) wr hm hn hkn rfl hdk hnd hdN havail htopo hrN hpar htail (fun _ _ _ h _ => h) ?_ ?_
  · intro i hi x a w hb hx hr Q K hK1 hK
    refine hstep i hi a w hb (fun s hs => ?_) Q K (fun w' hg => ?_)
    · rw [hr s hs]
      by_cases e : s = s0
      · subst e
        rw [hx hs]
        rfl
      · exact lkp_mid s0 post x v0 [] s e
    · by_cases e : i = 0
      · subst e
        exact hK1 rfl v0 w' hg rfl
      · have := hK e w' hg
        obtain ⟨j, rfl⟩ : ∃ j, i = j + 1 := ⟨i - 1, by omega⟩
        exact this
  · intro x w hb hx
    subst hx
    exact hlast w hb
theorem op_callNL {ops : Array Oper} {Q : Exit → Act → World → Prop} {i f : Nat} {o : Oper} {a : Act} {w : World} {xs : Array Operand} {us : Array Value} {ts : Array TypeId} {K : Act → World → Prop} {R : Ending → World → Prop} (hi : ops[i]? = some o) (hg : o.guard = none) (hop : o.op = .call { callee := .value (.func f), args := xs, argTypes := ts })
    (he : Enters Try.prog f) (hx : xs.map a.eval = us) (hc : Calls Try.prog f us w R) (hR : ∀ e w', R e w' → ∃ r, e = .returned r ∧ K (a.put o.dst r) w') : wpOp Try.prog ops Q i K a w := by
  unfold wpOp
  rw [hi]
  have hw : Region.wanted o (yielded ops a.tmps) = true := by simp [Region.wanted, hg]
  simp only [hw, if_true, Oper.wp]
  left
  have hrun : (execOp a.eval o).run Try.prog w = .ok (.enter f us) w := by
    unfold execOp
    simp only [hop]
    have := he us w
    have hfn : a.eval (.func f) = .func (.func f) #[] #[] := rfl
    simp [resolve, invoke, hx, hfn, Deferred.ofValue, this]
  rw [hrun, Oper.upon_enter]
  refine hc.mono fun e w' h => ?_
  obtain ⟨r, rfl, hK⟩ := hR e w' h
  exact hK
theorem run_nilL {ρ : Operand → Value} {P : Program} (w : World) {o : Oper} {x : Operand} {a : Addr} (ho : o.op = .nilCheck x) (h : ρ x = .pointer (some a)) : (execOp ρ o).run P w = .ok (.value (.pointer (some a))) w := by
  unfold execOp
  simp only [ho, h]
  simp [go_sem]
theorem map2L {f : Operand → Value} {x y : Operand} {p q : Value} (h1 : f x = p) (h2 : f y = q) : (#[x, y] : Array Operand).map f = #[p, q] := by simp [h1, h2]
def RsAt (Rs : List (Value → World → Prop)) (j : Nat) : Value → World → Prop := Rs.getD j fun _ _ => True
def MonoR (R : Value → World → Prop) : Prop := ∀ x w w', R x w → w.grownBy w' none → R x w'
theorem rsAt_mono {Rs : List (Value → World → Prop)} (h : ∀ R ∈ Rs, MonoR R) (j : Nat) (x : Value) (w w' : World) (hx : RsAt Rs j x w) (hg : w.grownBy w' none) : RsAt Rs j x w' := by
  unfold RsAt at *
  by_cases hj : j < Rs.length
  · have e : Rs.getD j (fun _ _ => True) = Rs[j] := by simp [List.getD, hj]
    rw [e] at hx ⊢
    exact h _ (List.getElem_mem hj) x w w' hx hg
  · have e : Rs.getD j (fun _ _ => True) = fun _ _ => True := by simp [List.getD, Nat.le_of_not_lt hj]
    rw [e]
    trivial
theorem region_each {P : Program} {ops : Array Oper} {id : Nat} {l0 : List Value} {Q : Exit → Act → World → Prop} (n k : Nat) (dst : List Nat) (reads : List (List Nat)) (par : List Nat) (Rs : List (Value → World → Prop)) (wr : World) (hm : P.follows .mixedOrders = true) (hn : ops.size = n) (hkn : k < n)
    (hdk : dst.length = k) (hnd : dst.Nodup) (hdN : (dst.all fun s => decide (s < l0.length)) = true)
    (havail : ((List.range k).all fun i => (reads.getD i []).all fun s => (List.range k).all fun j => (dst.getD j 0 != s) || waitsFor ops i j) = true) (htopo : ((List.range n).all fun i => laterNone ops i) = true)
    (hrN : ((List.range k).all fun i => (reads.getD i []).all fun s => decide (s < l0.length)) = true)
    (hpar : ((List.range k).all fun j => decide (j < par.getD j 0) && (decide (par.getD j 0 ≤ k) && waitsFor ops (par.getD j 0) j)) = true) (htail : ((List.range n).all fun i => decide (i ≤ k) || waitsFor ops i (i - 1)) = true)
    (hmono : ∀ R ∈ Rs, MonoR R)
    (hstep : ∀ i, i < k → ∀ (σ : Nat → Value) (a : Act) (w : World), Below wr.heap.size wr w → (∀ j, j < k → waitsFor ops i j = true → RsAt Rs j (σ j) w) → (∀ s ∈ reads.getD i [], a.eval (.tmp s) = lkp l0 (tbS dst k σ) s) → ∀ (Q : Exit → Act → World → Prop) (K : Act → World → Prop), (∀ x w', w.grownBy w' none → RsAt Rs i x w' → K (a.put (some (dst.getD i 0)) x) w') → wpOp P ops Q i K a w)
    (hlast : ∀ (σ : Nat → Value) w, Below wr.heap.size wr w → (∀ j, j < k → RsAt Rs j (σ j) w) → tailWp P ops Q (List.range' k (n - k)) { tmps := (setAll l0 (tbS dst k σ)).toArray, defers := [] } w) :
    (Code.region id ops true).wp P Q { tmps := l0.toArray, defers := [] } wr :=
  region_sig n k dst reads par (fun j σ w => RsAt Rs j (σ j) w) wr hm hn hkn hdk hnd hdN havail htopo hrN hpar htail
    (fun j _ σ σ' w he h => by have e := he j (Or.inl rfl); show RsAt Rs j (σ' j) w; rw [← e]; exact h) (fun j σ w w' h hg => rsAt_mono hmono j (σ j) w w' h hg)
    (fun i hi σ a w hb hp hr Q K hK => hstep i hi σ a w hb hp hr Q K (fun x w' hg hx => hK x w' hg (fun σ' _ e => by show RsAt Rs i (σ' i) w'; rw [e]; exact hx))) hlast
theorem op_skipL {P : Program} {ops : Array Oper} {Q : Exit → Act → World → Prop} {i : Nat} {o : Oper} {a : Act} {w w' : World} {K : Act → World → Prop} (hi : ops[i]? = some o) (hg : o.guard = none)
    (hrun : (execOp a.eval o).run P w = .ok .skip w') (hK : K (a.put o.dst undef) w') : wpOp P ops Q i K a w := by
  unfold wpOp
  rw [hi]
  have hw : Region.wanted o (yielded ops a.tmps) = true := by simp [Region.wanted, hg]
  simp only [hw, if_true, Oper.wp]
  left
  rw [hrun]
  exact hK
end Go.Proofs.Ytbjgfoiikhbonaf
namespace Go.Proofs.Ytbjgfoiikhbonaf
open Go.ChangeShapes Go.WideShapes Go.ChangeAt Go.RowKit
theorem run_ldIR {ρ : Operand → Value} (w : World) {o : Oper} {x : Operand} {g j : Nat} {v : Value} (ho : o.op = .load 3 x) (h : ρ x = .pointer (some ⟨g, j, none⟩)) (hc : w.cell? ⟨g, j, none⟩ = some v) : (execOp ρ o).run Try.prog w = .ok (.value v) w := by
  unfold execOp
  simp only [ho, h]
  simp [go_sem, hc]
end Go.Proofs.Ytbjgfoiikhbonaf
namespace Go.Proofs.Ytbjgfoiikhbonaf
open Go.ChangeShapes Go.WideShapes Go.ChangeAt Go.RowKit
theorem run_fdRp {ρ : Operand → Value} (w : World) {o : Oper} {x : Operand} {g j : Nat} (ho : o.op = .fieldAddr 73 x 1) (h : ρ x = .pointer (some ⟨g, j, none⟩)) : (execOp ρ o).run Try.prog w = .ok (.value (.pointer (some ⟨g, j + 1, none⟩))) w := by
  unfold execOp
  simp only [ho, h]
  simp [go_sem]
theorem run_fdRc {ρ : Operand → Value} (w : World) {o : Oper} {x : Operand} {g j : Nat} (ho : o.op = .fieldAddr 103 x 0) (h : ρ x = .pointer (some ⟨g, j, none⟩)) : (execOp ρ o).run Try.prog w = .ok (.value (.pointer (some ⟨g, j, none⟩))) w := by
  unfold execOp
  simp only [ho, h]
  simp [go_sem]
theorem run_fdS0 {ρ : Operand → Value} (w : World) {o : Oper} {x : Operand} {g j : Nat} (ho : o.op = .fieldAddr 114 x 0) (h : ρ x = .pointer (some ⟨g, j, none⟩)) : (execOp ρ o).run Try.prog w = .ok (.value (.pointer (some ⟨g, j, none⟩))) w := by
  unfold execOp
  simp only [ho, h]
  simp [go_sem]
theorem run_fdS1 {ρ : Operand → Value} (w : World) {o : Oper} {x : Operand} {g j : Nat} (ho : o.op = .fieldAddr 114 x 1) (h : ρ x = .pointer (some ⟨g, j, none⟩)) : (execOp ρ o).run Try.prog w = .ok (.value (.pointer (some ⟨g, j + 1, none⟩))) w := by
  unfold execOp
  simp only [ho, h]
  simp [go_sem]
theorem run_ldGs {ρ : Operand → Value} (w : World) {o : Oper} {x : Operand} {g j : Nat} {v : Value} (ho : o.op = .load 71 x) (h : ρ x = .pointer (some ⟨g, j, none⟩)) (hc : w.cell? ⟨g, j, none⟩ = some v) : (execOp ρ o).run Try.prog w = .ok (.value v) w := by
  unfold execOp
  simp only [ho, h]
  simp [go_sem, hc]
theorem run_bldG {ρ : Operand → Value} (w : World) {o : Oper} {x y z : Operand} {p q r : Int} (ho : o.op = .build 130 #[(0, x), (1, y), (2, z)]) (h : ρ x = .int .i64 p) (h' : ρ y = .int .i64 q) (h'' : ρ z = .int .i64 r) : (execOp ρ o).run Try.prog w = .ok (.value (.agg #[.int .i64 p, .int .i64 q, .int .i64 r])) w := by
  unfold execOp
  simp only [ho]
  simp [go_sem, h, h', h'']
theorem run_bslG {ρ : Operand → Value} (w : World) {o : Oper} {x : Operand} {p q r : Int} (ho : o.op = .buildSlice 71 1 #[(0, x)]) (h : ρ x = .agg #[.int .i64 p, .int .i64 q, .int .i64 r]) : (execOp ρ o).run Try.prog w = .ok (.value (.slice (some ⟨w.heap.size, 0, none⟩) 1 1)) (w.alloc (.cells #[.int .i64 p, .int .i64 q, .int .i64 r] 130)) := by
  unfold execOp
  simp only [ho]
  simp [go_sem, h]
theorem run_stGs {ρ : Operand → Value} (w : World) {o : Oper} {x y : Operand} {g j : Nat} {u : Value} {a : Option Addr} {n c : Nat} (ho : o.op = .store 71 x y) (h : ρ x = .pointer (some ⟨g, j, none⟩)) (h' : ρ y = .slice a n c) (hc : w.cell? ⟨g, j, none⟩ = some u) (hf : w.frozen? ⟨g, j, none⟩ = false) : (execOp ρ o).run Try.prog w = .ok .skip (w.setCell ⟨g, j, none⟩ (.slice a n c)) := by
  unfold execOp
  simp only [ho, h, h']
  simp [go_sem, hc, hf]
theorem op_pushG {ops : Array Oper} {Q : Exit → Act → World → Prop} {i : Nat} {o : Oper} {a : Act} {W : World} {K : Act → World → Prop} {v : Value} {L : Nat} {xs : List Value} {i0 : TypeInfo} (hi : ops[i]? = some o) (hg : o.guard = none) (hi0 : Try.prog.info? 130 = some i0) (hz0 : i0.zero = some (.agg #[.int .i64 0, .int .i64 0, .int .i64 0])) (hz1 : i0.size = 3) (hz2 : i0.bytes = 24) (B : Nat) (p q r : Int) (gb : Nat) {s x : Operand}
    (ho : o.op = .call { callee := .builtin .append, args := #[s, x], argTypes := #[71, 71] }) (hs : a.eval s = v) (hx : a.eval x = .slice (some ⟨gb, 0, none⟩) 1 1) (hown : W.ownsRow B 130 3 v L xs) (hc : At W gb 130 [.int .i64 p, .int .i64 q, .int .i64 r]) (hlen : L ≤ 100000) (hB : B ≤ W.heap.size)
    (h : ∀ v' w', w'.ownsRow B 130 3 v' (L + 1) (xs ++ [.int .i64 p, .int .i64 q, .int .i64 r]) → W.grownBy w' v.ownBlock → (v'.ownBlock = v.ownBlock ∨ v'.ownBlock = some W.heap.size) → K (a.put o.dst v') w') : wpOp Try.prog ops Q i K a W := by
  unfold wpOp
  rw [hi]
  have hw : Region.wanted o (yielded ops a.tmps) = true := by simp [Region.wanted, hg]
  simp only [hw, if_true]
  left
  have h9 := step_pushR (ops := ops) (K := K) (Q := Q) (E := True) B gb Try.underlying71 hi0 hz0 hz1 hz2 rfl (by decide) hown hg s x ho hs hx (news := [.int .i64 p, .int .i64 q, .int .i64 r]) rfl (fun j u hj => (hc.cell j).trans hj) (by intro u hu; simp at hu; rcases hu with rfl | rfl | rfl <;> rfl) (by unfold maxLen; omega) (by omega) hB h
  rw [if_pos hw] at h9
  exact h9
/-- What is known of each value. -/
def rep9 (N4 b bx : Nat) (fs i M p q : Int) (V : Value) (B L Z : Nat) (LL : List GapM) (S : List Nat) : Nat → (Nat → Value) → World → Prop
  | 0, σ, _ => σ 0 = .pointer (some ⟨N4, 1, none⟩)
  | 1, σ, _ => σ 1 = V
  | 2, σ, _ => σ 2 = .pointer (some ⟨b, 0, none⟩)
  | 3, σ, _ => σ 3 = .pointer (some ⟨b, 0, none⟩)
  | 4, σ, _ => σ 4 = .pointer (some ⟨b, 0, none⟩)
  | 5, σ, _ => σ 5 = .int .i64 fs
  | 6, σ, _ => σ 6 = .int .i64 i
  | 7, σ, _ => σ 7 = .int .i64 M
  | 8, σ, _ => σ 8 = .pointer (some ⟨bx, 0, none⟩)
  | 9, σ, _ => σ 9 = .int .i64 p
  | 10, σ, _ => σ 10 = .pointer (some ⟨bx, 1, none⟩)
  | 11, σ, _ => σ 11 = .int .i64 q
  | 12, σ, _ => σ 12 = .agg #[.int .i64 M, .int .i64 p, .int .i64 q]
  | 13, σ, w => ∃ gx, gx ∉ S ∧ σ 13 = .slice (some ⟨gx, 0, none⟩) 1 1 ∧ At w gx 130 [.int .i64 M, .int .i64 p, .int .i64 q]
  | 14, σ, w => ∃ a' c', σ 14 = .slice a' (L + 1) c' ∧ w.ownsRow B 130 3 (.slice a' (L + 1) c') (L + 1) (cellsGp LL ++ [.int .i64 M, .int .i64 p, .int .i64 q]) ∧ (∀ x, (Value.slice a' (L + 1) c').ownBlock = some x → V.ownBlock = some x ∨ Z ≤ x)
  | 15, σ, _ => σ 15 = .pointer (some ⟨N4, 1, none⟩)
  | _, _, _ => True
theorem rep9_cong {N4 b bx : Nat} {fs i M p q : Int} {V : Value} {B L Z : Nat} {LL : List GapM} {S : List Nat} (j : Nat) (σ σ' : Nat → Value) (w : World) (h : σ j = σ' j) (hp : rep9 N4 b bx fs i M p q V B L Z LL S j σ w) : rep9 N4 b bx fs i M p q V B L Z LL S j σ' w := by
  match j with
  | 0 | 1 | 2 | 3 | 4 | 5 | 6 | 7 | 8 | 9 | 10 | 11 | 12 | 15 => exact h.symm.trans hp
  | 13 => obtain ⟨gx, h1, h2, h3⟩ := hp; exact ⟨gx, h1, h.symm.trans h2, h3⟩
  | 14 => obtain ⟨a', c', h1, h2⟩ := hp; exact ⟨a', c', h.symm.trans h1, h2⟩
  | n + 16 => trivial
theorem rep9_mono {N4 b bx : Nat} {fs i M p q : Int} {V : Value} {B L Z : Nat} {LL : List GapM} {S : List Nat} (j : Nat) (σ : Nat → Value) (w w' : World) (hp : rep9 N4 b bx fs i M p q V B L Z LL S j σ w) (hk : Kept [] w w') : rep9 N4 b bx fs i M p q V B L Z LL S j σ w' := by
  match j with
  | 0 | 1 | 2 | 3 | 4 | 5 | 6 | 7 | 8 | 9 | 10 | 11 | 12 | 15 => exact hp
  | 13 => obtain ⟨gx, h1, h2, h3⟩ := hp; exact ⟨gx, h1, h2, h3.kept hk (by simp)⟩
  | 14 => obtain ⟨a', c', h1, h2, h3⟩ := hp; exact ⟨a', c', h1, keptRow h2 hk (by simp), h3⟩
  | n + 16 => trivial
theorem rep9_monoS {N4 b bx : Nat} {fs i M p q : Int} {V : Value} {B L Z : Nat} {LL : List GapM} {S : List Nat} (j : Nat) (σ : Nat → Value) (w w' : World) (hj : j ≠ 14) (hp : rep9 N4 b bx fs i M p q V B L Z LL S j σ w) (hk : Kept S w w') : rep9 N4 b bx fs i M p q V B L Z LL S j σ w' := by
  match j with
  | 0 | 1 | 2 | 3 | 4 | 5 | 6 | 7 | 8 | 9 | 10 | 11 | 12 | 15 => exact hp
  | 13 => obtain ⟨gx, h1, h2, h3⟩ := hp; exact ⟨gx, h1, h2, h3.kept hk h1⟩
  | 14 => exact absurd rfl hj
  | n + 16 => trivial
theorem RpAt.push2 {w ws wc : World} {nx : Int} {L : List GapM} {a a' : Option Addr} {c c' : Nat} {q : GapM} (h : RpAt w ws nx L a c) (hk : Kept (Value.slice a L.length c).ownBlock.toList ws wc) (ho : wc.ownsRow (w.heap.size + 2) 130 3 (.slice a' (L.length + 1) c') (L.length + 1) (cellsGp L ++ q.cells)) : RpAt w (wc.setCell ⟨w.heap.size + 1, 1, none⟩ (.slice a' (L.length + 1) c')) nx (L ++ [q]) a' c' := by
  have hblk : ∀ x, x ∈ (Value.slice a L.length c).ownBlock.toList → w.heap.size + 2 ≤ x := fun x hx => (World.ownsRow.lt h.own x (by simpa using hx)).1
  have hl : (L ++ [q]).length = L.length + 1 := by simp
  have hb4 : Below w.heap.size w wc := h.bel.trans (hk.below h.bel.size (fun x hx => by have := hblk x hx; omega))
  refine ⟨?_, ?_, ?_, ?_⟩
  · rw [hl]
    exact (h.row.kept hk (fun hm => by have := hblk _ hm; omega)).setCell _
  · exact (h.res.kept hk (fun hm => by have := hblk _ hm; omega)).setOther _ _ (by show w.heap.size ≠ w.heap.size + 1; omega)
  · rw [hl, cellsGp_app]
    have e : cellsGp [q] = q.cells := by simp [cellsGp]
    rw [e]
    refine keptRow ho (kept_setCell wc (w.heap.size + 1) 1 _) (fun x hx => ?_)
    have := (World.ownsRow.lt ho x hx).1
    simp
    omega
  · exact hb4.setCell (by show w.heap.size ≤ w.heap.size + 1; omega) _
end Go.Proofs.Ytbjgfoiikhbonaf
