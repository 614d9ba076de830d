import Derived.Test.YtmdfjhnibhmdkafDoorSt23
import Derived.Test.YtmdfjhnibhmdkafDoorSt13
namespace Go.Proofs.YtmdfjhnibhmdkafDoor
open Go.ChangeShapes Go.WideShapes Go.ChangeAt Go.RowKit
theorem PSh.other {w : World} {B g : Nat} {v : Value} {l : List ShM} (h : PSh w B g v l) {p : Addr} (hg : g ≠ p.block) (hv : v.ownBlock ≠ some p.block) (x : Value) : PSh (w.setCell p x) B g v l := ⟨(heap_setCell_other w p g x hg).trans h.box, h.own.other hv x, h.ne, h.le⟩
theorem Kept.setNew {S : List Nat} {a w : World} (h : Kept S a w) {p : Addr} (hp : a.heap.size ≤ p.block) (u : Value) : Kept S a (w.setCell p u) :=
  ⟨h.os, h.tape, h.output, by simpa [World.setCell] using h.size, fun k hk hn => (Below.heap_setCell _ _ _ _ (by omega)).trans (h.block k hk hn)⟩
structure Apart (B W g gg bx go : Nat) (v : Value) : Prop where
  a1 : B ≤ gg
  a2 : B ≤ bx
  a3 : gg ≠ bx
  a4 : gg ≠ go
  a5 : bx ≠ go
  a6 : g ≠ gg
  a7 : g ≠ bx
  v1 : v.ownBlock ≠ some gg
  v2 : v.ownBlock ≠ some bx
  v3 : v.ownBlock ≠ some go
  b1 : W ≤ gg
  b2 : W ≤ bx
structure GrA (w00 w0 w : World) (B g gg bx go : Nat) (v : Value) (l : List ShM) (out : List Int) (left : Int) (ord : List Nat) : Prop where
  P : PSh w B g v l
  out : ArrAt .i64 3 w gg out
  box : ArrAt .i64 3 w bx [left]
  ord : ArrAt .i64 3 w go (intsG ord)
  bel : Below B w00 w
  kp : Kept (ownT v) w0 w
theorem GrA.drew {w00 w0 w : World} {B g gg bx go : Nat} {v : Value} {l : List ShM} {out : List Int} {left : Int} {ord : List Nat} (h : GrA w00 w0 w B g gg bx go v l out left ord) : GrA w00 w0 w.drew B g gg bx go v l out left ord := ⟨⟨h.P.box, h.P.own, h.P.ne, h.P.le⟩, h.out, h.box, h.ord, h.bel.drew, h.kp.drew⟩
theorem GrA.setBox {w00 w0 w : World} {B g gg bx go : Nat} {v : Value} {l : List ShM} {out : List Int} {left : Int} {ord : List Nat} (hA : Apart B w0.heap.size g gg bx go v) (h : GrA w00 w0 w B g gg bx go v l out left ord) (x : Int) : GrA w00 w0 (w.setCell ⟨bx, 0, none⟩ (.int .i64 x)) B g gg bx go v l out x ord :=
  ⟨h.P.other hA.a7 hA.v2 _, h.out.other _ _ hA.a3, h.box.set 0 x, h.ord.other _ _ (fun e => hA.a5 e.symm), h.bel.setCell (p := ⟨bx, 0, none⟩) hA.a2 _, h.kp.setNew (p := ⟨bx, 0, none⟩) hA.b2 _⟩
theorem GrA.setOut {w00 w0 w : World} {B g gg bx go : Nat} {v : Value} {l : List ShM} {out : List Int} {left : Int} {ord : List Nat} (hA : Apart B w0.heap.size g gg bx go v) (h : GrA w00 w0 w B g gg bx go v l out left ord) (i : Nat) (x : Int) : GrA w00 w0 (w.setCell ⟨gg, i, none⟩ (.int .i64 x)) B g gg bx go v l (out.set i x) left ord :=
  ⟨h.P.other hA.a6 hA.v1 _, h.out.set i x, h.box.other _ _ (fun e => hA.a3 e.symm), h.ord.other _ _ (fun e => hA.a4 e.symm), h.bel.setCell (p := ⟨gg, i, none⟩) hA.a1 _, h.kp.setNew (p := ⟨gg, i, none⟩) hA.b1 _⟩
theorem GrA.setLv {w00 w0 w : World} {B g gg bx go gb n c : Nat} {l : List ShM} {out : List Int} {left : Int} {ord : List Nat} (hA : Apart B w0.heap.size g gg bx go (.slice (some ⟨gb, 0, none⟩) n c)) (h : GrA w00 w0 w B g gg bx go (.slice (some ⟨gb, 0, none⟩) n c) l out left ord) (hgb : B ≤ gb) {i : Nat} (hi : i < l.length) (x : Int) :
    GrA w00 w0 (w.setCell ⟨gb, i * 5 + 4, none⟩ (.int .i64 x)) B g gg bx go (.slice (some ⟨gb, 0, none⟩) n c) (l.set i ⟨(l.getD i .zero).ch, x⟩) out left ord :=
  ⟨h.P.setLv hi x, h.out.other _ _ (fun e => hA.v1 (by rw [e]; rfl)), h.box.other _ _ (fun e => hA.v2 (by rw [e]; rfl)), h.ord.other _ _ (fun e => hA.v3 (by rw [e]; rfl)), h.bel.setCell (p := ⟨gb, i * 5 + 4, none⟩) hgb _, h.kp.setCell (p := ⟨gb, i * 5 + 4, none⟩) (ownT_in.2 rfl) _⟩
/-- What the rounds have made after so many channels. -/
def S1 (l : List ShM) (bl : List Int) (bytes : Int) (k : Nat) : GiveM := GiveM.round true (lvs l) bl ((ordT l).take k) ⟨List.replicate bl.length 0, bytes⟩
def S2 (l : List ShM) (bl : List Int) (bytes : Int) (k : Nat) : GiveM := GiveM.round false (lvs l) bl ((ordT l).take k) (S1 l bl bytes l.length)
theorem S_all (l : List ShM) (bl : List Int) (bytes : Int) : S2 l bl bytes l.length = grantM (lvs l) bl bytes (ordT l) := by
  unfold S2 S1 grantM
  rw [List.take_of_length_le (by rw [ordT_length]; exact Nat.le_refl _)]
theorem ordT_nodup (l : List ShM) : (ordT l).Nodup := (ordT_perm l).nodup_iff.2 List.nodup_range
theorem ordT_at {l : List ShM} {k : Nat} (h : k < l.length) : (ordT l).getD k 0 < l.length := by
  have hk : k < (ordT l).length := by rw [ordT_length]; exact h
  have e : (ordT l).getD k 0 = (ordT l)[k] := by simp [List.getD, hk]
  rw [e]
  exact ordT_lt (List.getElem_mem hk)
theorem S1_ok {l : List ShM} {bl : List Int} {bytes : Int} (hG : grantOk l.length bl bytes) (k : Nat) : (S1 l bl bytes k).Ok bl bytes := by
  have hby := of_decide_eq_true hG.2.1
  have h0 : (⟨List.replicate bl.length 0, bytes⟩ : GiveM).Ok bl bytes := by
    refine ⟨by simp, hby.1, ?_, ?_⟩
    · have : ∀ n : Nat, sumI (List.replicate n 0) = 0 := fun n => by
        induction n with
        | zero => rfl
        | succ n ih => rw [List.replicate_succ, sumI_cons, ih]; rfl
      show sumI (List.replicate bl.length 0) + bytes = bytes
      rw [this]
      omega
    · intro i hi
      have e : (List.replicate bl.length (0 : Int)).getD i 0 = 0 := by
        simp only [List.getD, List.getElem?_replicate]
        split <;> rfl
      show 0 ≤ (List.replicate bl.length (0 : Int)).getD i 0 ∧ (List.replicate bl.length (0 : Int)).getD i 0 ≤ bl.getD i 0
      rw [e]
      have := of_decide_eq_true (hG.2.2 i hi)
      exact ⟨by omega, this.1⟩
  exact GiveM.Ok.round true (lvs l) _ h0 (fun i hi => by rw [hG.1]; exact ordT_lt (List.mem_of_mem_take hi))
theorem S2_ok {l : List ShM} {bl : List Int} {bytes : Int} (hG : grantOk l.length bl bytes) (k : Nat) : (S2 l bl bytes k).Ok bl bytes :=
  GiveM.Ok.round false (lvs l) _ (S1_ok hG _) (fun i hi => by rw [hG.1]; exact ordT_lt (List.mem_of_mem_take hi))
theorem left_le {bl : List Int} {bytes : Int} {S : GiveM} (h : S.Ok bl bytes) (hs : 0 ≤ sumI S.out) : S.left ≤ bytes := by have := h.sum; omega
theorem sumI_nonneg : ∀ l : List Int, (∀ i, i < l.length → 0 ≤ l.getD i 0) → 0 ≤ sumI l
  | [], _ => by simp [sumI]
  | x :: l, h => by
    have h0 := h 0 (by simp)
    have ih := sumI_nonneg l (fun i hi => by simpa using h (i + 1) (by simpa using hi))
    rw [sumI_cons]
    have e : (x :: l).getD 0 0 = x := rfl
    omega
theorem ok_left {bl : List Int} {bytes : Int} {S : GiveM} (h : S.Ok bl bytes) : 0 ≤ S.left ∧ S.left ≤ bytes := ⟨h.some, left_le h (sumI_nonneg _ fun i hi => (h.each i (by rw [← h.len]; exact hi)).1)⟩
theorem S1_step {l : List ShM} {bl : List Int} {bytes : Int} (hG : grantOk l.length bl bytes) {k : Nat} (hk : k < l.length) :
    S1 l bl bytes (k + 1) = ⟨(S1 l bl bytes k).out.set ((ordT l).getD k 0) (min (min (bl.getD ((ordT l).getD k 0) 0) (max (l.getD ((ordT l).getD k 0) .zero).lv 0)) (S1 l bl bytes k).left), (S1 l bl bytes k).left - min (min (bl.getD ((ordT l).getD k 0) 0) (max (l.getD ((ordT l).getD k 0) .zero).lv 0)) (S1 l bl bytes k).left⟩ := by
  have hko : k < (ordT l).length := by rw [ordT_length]; exact hk
  have hi := ordT_at hk
  have e : S1 l bl bytes (k + 1) = (S1 l bl bytes k).give true (lvs l) bl ((ordT l).getD k 0) := round_take true (lvs l) bl (ordT l) _ hko
  have hz : (S1 l bl bytes k).out.getD ((ordT l).getD k 0) 0 = 0 := by
    have := round_other true (lvs l) bl ((ordT l).take k) ⟨List.replicate bl.length 0, bytes⟩ (not_before (ordT_nodup l) hko)
    unfold S1
    rw [this]
    show (List.replicate bl.length (0 : Int)).getD _ 0 = 0
    simp only [List.getD, List.getElem?_replicate]
    split <;> rfl
  have hb := (of_decide_eq_true (hG.2.2 ((ordT l).getD k 0) (by rw [hG.1]; exact hi))).1
  rw [e, give_first hb (S1_ok hG k).some hz, lvs_at hi]
theorem S2_step {l : List ShM} {bl : List Int} {bytes : Int} (hG : grantOk l.length bl bytes) {k : Nat} (hk : k < l.length) :
    S2 l bl bytes (k + 1) = ⟨(S2 l bl bytes k).out.set ((ordT l).getD k 0) ((S2 l bl bytes k).out.getD ((ordT l).getD k 0) 0 + min (bl.getD ((ordT l).getD k 0) 0 - (S2 l bl bytes k).out.getD ((ordT l).getD k 0) 0) (S2 l bl bytes k).left), (S2 l bl bytes k).left - min (bl.getD ((ordT l).getD k 0) 0 - (S2 l bl bytes k).out.getD ((ordT l).getD k 0) 0) (S2 l bl bytes k).left⟩ := by
  have hko : k < (ordT l).length := by rw [ordT_length]; exact hk
  have hi := ordT_at hk
  have e : S2 l bl bytes (k + 1) = (S2 l bl bytes k).give false (lvs l) bl ((ordT l).getD k 0) := round_take false (lvs l) bl (ordT l) _ hko
  have hS := S2_ok hG k
  rw [e, give_second (hS.each _ (by rw [hG.1]; exact hi)).2 hS.some]
end Go.Proofs.YtmdfjhnibhmdkafDoor
namespace Go.Proofs.YtmdfjhnibhmdkafDoor
open Go.ChangeShapes Go.WideShapes Go.ChangeAt Go.RowKit
theorem run_ixInts {ρ : Operand → Value} (w : World) {o : Oper} {x y : Operand} {g s j n c : Nat} (ho : o.op = .indexAddr 23 x y) (h : ρ x = .slice (some ⟨g, s, none⟩) n c) (h' : ρ y = .int .i64 j) (hj : j < n) : (execOp ρ o).run Tryd.prog w = .ok (.value (.pointer (some ⟨g, s + j, none⟩))) w := by
  unfold execOp
  simp only [ho, h, h']
  simp [go_sem, hj]
theorem run_ldint {ρ : Operand → Value} (w : World) {o : Oper} {x : Operand} {g j : Nat} {v : Value} (ho : o.op = .load 3 x) (h : ρ x = .pointer (some ⟨g, j, none⟩)) (hc : w.cell? ⟨g, j, none⟩ = some v) : (execOp ρ o).run Tryd.prog w = .ok (.value v) w := by
  unfold execOp
  simp only [ho, h]
  simp [go_sem, hc]
theorem run_subint {ρ : Operand → Value} (w : World) {o : Oper} {x y : Operand} {p q : Int} (ho : o.op = .binOp .sub 3 x y 3) (h : ρ x = .int .i64 p) (h' : ρ y = .int .i64 q) (hw : IntKind.i64.wrap (p - q) = p - q) : (execOp ρ o).run Tryd.prog w = .ok (.value (.int .i64 (p - q))) w := by
  unfold execOp
  simp only [ho, h, h']
  simp [go_sem, hw]
theorem run_addint {ρ : Operand → Value} (w : World) {o : Oper} {x y : Operand} {p q : Int} (ho : o.op = .binOp .add 3 x y 3) (h : ρ x = .int .i64 p) (h' : ρ y = .int .i64 q) (hw : IntKind.i64.wrap (p + q) = p + q) : (execOp ρ o).run Tryd.prog w = .ok (.value (.int .i64 (p + q))) w := by
  unfold execOp
  simp only [ho, h, h']
  simp [go_sem, hw]
theorem run_stI {ρ : Operand → Value} (w : World) {o : Oper} {x y : Operand} {g j : Nat} {u : Value} {v : Int} (ho : o.op = .store 3 x y) (h : ρ x = .pointer (some ⟨g, j, none⟩)) (h' : ρ y = .int .i64 v) (hc : w.cell? ⟨g, j, none⟩ = some u) (hf : w.frozen? ⟨g, j, none⟩ = false) : (execOp ρ o).run Tryd.prog w = .ok .skip (w.setCell ⟨g, j, none⟩ (.int .i64 v)) := by
  unfold execOp
  simp only [ho, h, h']
  simp [go_sem, hc, hf]
/-- A call of a function value that is bound to something. -/
theorem op_callV {ops : Array Oper} {Q : Exit → Act → World → Prop} {i f s : Nat} {o : Oper} {a : Act} {w : World} {xs : Array Operand} {us lb : Array Value} {ts : Array TypeId} {K : Act → World → Prop} {R : Ending → World → Prop} (hi : ops[i]? = some o) (hg : o.guard = none) (hop : o.op = .call { callee := .value (.tmp s), args := xs, argTypes := ts })
    (he : Enters Tryd.prog f) (hv : a.eval (.tmp s) = .func (.func f) #[] lb) (hx : xs.map a.eval = us) (hc : Calls Tryd.prog f (us ++ lb) w R) (hR : ∀ e w', R e w' → ∃ r, e = .returned r ∧ K (a.put o.dst r) w') : wpOp Tryd.prog ops Q i K a w := by
  unfold wpOp
  rw [hi]
  have hw : Region.wanted o (yielded ops a.tmps) = true := by simp [Region.wanted, hg]
  simp only [hw, if_true, Oper.wp]
  left
  have hrun : (execOp a.eval o).run Tryd.prog w = .ok (.enter f (us ++ lb)) w := by
    unfold execOp
    simp only [hop]
    have := he (us ++ lb) w
    simp [resolve, invoke, hx, hv, Deferred.ofValue, this]
  rw [hrun, Oper.upon_enter]
  refine hc.mono fun e w' h => ?_
  obtain ⟨r, rfl, hK⟩ := hR e w' h
  exact hK
theorem keptCell {S : List Nat} {w w' : World} (hk : Kept S w w') {a : Addr} {v : Value} (h : w.cell? a = some v) (hn : a.block ∉ S) : w'.cell? a = some v := (World.cell?_of_block (hk.block a.block (World.block_lt_of_cell? w a h) hn)).trans h
theorem OwnSh.kept {w w' : World} {B bx : Nat} {v : Value} {l : List ShM} (h : OwnSh w B v l) (hk : Kept [bx] w w') (hv : v.ownBlock ≠ some bx) : OwnSh w' B v l := by
  refine ⟨h.1, ?_⟩
  rcases h.2 with h' | ⟨g, cap, cur, h1, h2, h3, h4⟩
  · exact .inl h'
  · have hlt : g < w.heap.size := (Array.getElem?_eq_some_iff.1 h3).1
    exact .inr ⟨g, cap, cur, h1, h2, (hk.block g hlt (by simp; intro e; exact hv (by rw [h1, ← e]; rfl))).trans h3, h4⟩
theorem GrA.kept {w00 w0 w w' : World} {B g gg bx go : Nat} {v : Value} {l : List ShM} {out : List Int} {left x : Int} {ord : List Nat} (h : GrA w00 w0 w B g gg bx go v l out left ord) (hA : Apart B w0.heap.size g gg bx go v) (hk : Kept [bx] w w') (hx : ArrAt .i64 3 w' bx [x]) : GrA w00 w0 w' B g gg bx go v l out x ord := by
  have hB : B ≤ w.heap.size := Nat.le_of_lt (Nat.lt_of_le_of_lt h.P.le h.P.lt)
  refine ⟨⟨(hk.block g h.P.lt (by simp; exact hA.a7)).trans h.P.box, h.P.own.kept hk hA.v2, h.P.ne, h.P.le⟩, h.out.kept hk (by simp; exact hA.a3), hx, h.ord.kept hk (by simp; exact fun e => hA.a5 e.symm), h.bel.trans (hk.below (B := B) hB (by simp; exact hA.a2)), ⟨hk.os.trans h.kp.os, hk.tape.trans h.kp.tape, hk.output.trans h.kp.output, Nat.le_trans h.kp.size hk.size, fun i hi hn => (hk.block i (Nat.lt_of_lt_of_le hi h.kp.size) (by simp only [List.mem_singleton]; have := hA.b2; omega)).trans (h.kp.block i hi hn)⟩⟩
end Go.Proofs.YtmdfjhnibhmdkafDoor
