import Derived.Test.YtmdfjhnibhmdkafDoorMgG
namespace Go.Proofs.YtmdfjhnibhmdkafDoor
open Go.ChangeShapes Go.WideShapes Go.ChangeAt Go.RowKit

/-! THE PROGRAM'S Grant: what stands in memory. -/

theorem PSh.other {w : World} {B g : Nat} {v : Value} {l : List ShM} (h : PSh w B g v l) {p : Addr} (hg : g ≠ p.block) (hv : v.ownBlock ≠ some p.block) (x : Value) : PSh (w.setCell p x) B g v l := ⟨(heap_setCell_other w p g x hg).trans h.box, h.own.other hv x, h.ne, h.le⟩
theorem Kept.setNew {S : List Nat} {a w : World} (h : Kept S a w) {p : Addr} (hp : a.heap.size ≤ p.block) (u : Value) : Kept S a (w.setCell p u) :=
  ⟨h.os, h.tape, h.output, by simpa [World.setCell] using h.size, fun k hk hn => (Below.heap_setCell _ _ _ _ (by omega)).trans (h.block k hk hn)⟩
structure Apart (B W g gg bx go : Nat) (v : Value) : Prop where
  a1 : B ≤ gg
  a2 : B ≤ bx
  a3 : gg ≠ bx
  a4 : gg ≠ go
  a5 : bx ≠ go
  a6 : g ≠ gg
  a7 : g ≠ bx
  v1 : v.ownBlock ≠ some gg
  v2 : v.ownBlock ≠ some bx
  v3 : v.ownBlock ≠ some go
  b1 : W ≤ gg
  b2 : W ≤ bx
structure GrA (w00 w0 w : World) (B g gg bx go : Nat) (v : Value) (l : List ShM) (out : List Int) (left : Int) (ord : List Nat) : Prop where
  P : PSh w B g v l
  out : ArrAt .i64 3 w gg out
  box : ArrAt .i64 3 w bx [left]
  ord : ArrAt .i64 3 w go (intsG ord)
  bel : Below B w00 w
  kp : Kept (ownT v) w0 w
theorem GrA.drew {w00 w0 w : World} {B g gg bx go : Nat} {v : Value} {l : List ShM} {out : List Int} {left : Int} {ord : List Nat} (h : GrA w00 w0 w B g gg bx go v l out left ord) : GrA w00 w0 w.drew B g gg bx go v l out left ord := ⟨⟨h.P.box, h.P.own, h.P.ne, h.P.le⟩, h.out, h.box, h.ord, h.bel.drew, h.kp.drew⟩
theorem GrA.setBox {w00 w0 w : World} {B g gg bx go : Nat} {v : Value} {l : List ShM} {out : List Int} {left : Int} {ord : List Nat} (hA : Apart B w0.heap.size g gg bx go v) (h : GrA w00 w0 w B g gg bx go v l out left ord) (x : Int) : GrA w00 w0 (w.setCell ⟨bx, 0, none⟩ (.int .i64 x)) B g gg bx go v l out x ord :=
  ⟨h.P.other hA.a7 hA.v2 _, h.out.other _ _ hA.a3, h.box.set 0 x, h.ord.other _ _ (fun e => hA.a5 e.symm), h.bel.setCell (p := ⟨bx, 0, none⟩) hA.a2 _, h.kp.setNew (p := ⟨bx, 0, none⟩) hA.b2 _⟩
theorem GrA.setOut {w00 w0 w : World} {B g gg bx go : Nat} {v : Value} {l : List ShM} {out : List Int} {left : Int} {ord : List Nat} (hA : Apart B w0.heap.size g gg bx go v) (h : GrA w00 w0 w B g gg bx go v l out left ord) (i : Nat) (x : Int) : GrA w00 w0 (w.setCell ⟨gg, i, none⟩ (.int .i64 x)) B g gg bx go v l (out.set i x) left ord :=
  ⟨h.P.other hA.a6 hA.v1 _, h.out.set i x, h.box.other _ _ (fun e => hA.a3 e.symm), h.ord.other _ _ (fun e => hA.a4 e.symm), h.bel.setCell (p := ⟨gg, i, none⟩) hA.a1 _, h.kp.setNew (p := ⟨gg, i, none⟩) hA.b1 _⟩
theorem GrA.setLv {w00 w0 w : World} {B g gg bx go gb n c : Nat} {l : List ShM} {out : List Int} {left : Int} {ord : List Nat} (hA : Apart B w0.heap.size g gg bx go (.slice (some ⟨gb, 0, none⟩) n c)) (h : GrA w00 w0 w B g gg bx go (.slice (some ⟨gb, 0, none⟩) n c) l out left ord) (hgb : B ≤ gb) {i : Nat} (hi : i < l.length) (x : Int) :
    GrA w00 w0 (w.setCell ⟨gb, i * 5 + 4, none⟩ (.int .i64 x)) B g gg bx go (.slice (some ⟨gb, 0, none⟩) n c) (l.set i ⟨(l.getD i .zero).ch, x⟩) out left ord :=
  ⟨h.P.setLv hi x, h.out.other _ _ (fun e => hA.v1 (by rw [e]; rfl)), h.box.other _ _ (fun e => hA.v2 (by rw [e]; rfl)), h.ord.other _ _ (fun e => hA.v3 (by rw [e]; rfl)), h.bel.setCell (p := ⟨gb, i * 5 + 4, none⟩) hgb _, h.kp.setCell (p := ⟨gb, i * 5 + 4, none⟩) (ownT_in.2 rfl) _⟩

/-- What the rounds have made after so many channels. -/
def S1 (l : List ShM) (bl : List Int) (bytes : Int) (k : Nat) : GiveM := GiveM.round true (lvs l) bl ((ordT l).take k) ⟨List.replicate bl.length 0, bytes⟩
def S2 (l : List ShM) (bl : List Int) (bytes : Int) (k : Nat) : GiveM := GiveM.round false (lvs l) bl ((ordT l).take k) (S1 l bl bytes l.length)
theorem S_all (l : List ShM) (bl : List Int) (bytes : Int) : S2 l bl bytes l.length = grantM (lvs l) bl bytes (ordT l) := by
  unfold S2 S1 grantM
  rw [List.take_of_length_le (by rw [ordT_length]; exact Nat.le_refl _)]
theorem ordT_nodup (l : List ShM) : (ordT l).Nodup := (ordT_perm l).nodup_iff.2 List.nodup_range
theorem ordT_at {l : List ShM} {k : Nat} (h : k < l.length) : (ordT l).getD k 0 < l.length := by
  have hk : k < (ordT l).length := by rw [ordT_length]; exact h
  have e : (ordT l).getD k 0 = (ordT l)[k] := by simp [List.getD, hk]
  rw [e]
  exact ordT_lt (List.getElem_mem hk)
theorem S1_ok {l : List ShM} {bl : List Int} {bytes : Int} (hG : grantOk l.length bl bytes) (k : Nat) : (S1 l bl bytes k).Ok bl bytes := by
  have hby := of_decide_eq_true hG.2.1
  have h0 : (⟨List.replicate bl.length 0, bytes⟩ : GiveM).Ok bl bytes := by
    refine ⟨by simp, hby.1, ?_, ?_⟩
    · have : ∀ n : Nat, sumI (List.replicate n 0) = 0 := fun n => by
        induction n with
        | zero => rfl
        | succ n ih => rw [List.replicate_succ, sumI_cons, ih]; rfl
      show sumI (List.replicate bl.length 0) + bytes = bytes
      rw [this]
      omega
    · intro i hi
      have e : (List.replicate bl.length (0 : Int)).getD i 0 = 0 := by
        simp only [List.getD, List.getElem?_replicate]
        split <;> rfl
      show 0 ≤ (List.replicate bl.length (0 : Int)).getD i 0 ∧ (List.replicate bl.length (0 : Int)).getD i 0 ≤ bl.getD i 0
      rw [e]
      have := of_decide_eq_true (hG.2.2 i hi)
      exact ⟨by omega, this.1⟩
  exact GiveM.Ok.round true (lvs l) _ h0 (fun i hi => by rw [hG.1]; exact ordT_lt (List.mem_of_mem_take hi))
theorem S2_ok {l : List ShM} {bl : List Int} {bytes : Int} (hG : grantOk l.length bl bytes) (k : Nat) : (S2 l bl bytes k).Ok bl bytes :=
  GiveM.Ok.round false (lvs l) _ (S1_ok hG _) (fun i hi => by rw [hG.1]; exact ordT_lt (List.mem_of_mem_take hi))
theorem left_le {bl : List Int} {bytes : Int} {S : GiveM} (h : S.Ok bl bytes) (hs : 0 ≤ sumI S.out) : S.left ≤ bytes := by have := h.sum; omega
theorem sumI_nonneg : ∀ l : List Int, (∀ i, i < l.length → 0 ≤ l.getD i 0) → 0 ≤ sumI l
  | [], _ => by simp [sumI]
  | x :: l, h => by
    have h0 := h 0 (by simp)
    have ih := sumI_nonneg l (fun i hi => by simpa using h (i + 1) (by simpa using hi))
    rw [sumI_cons]
    have e : (x :: l).getD 0 0 = x := rfl
    omega
theorem ok_left {bl : List Int} {bytes : Int} {S : GiveM} (h : S.Ok bl bytes) : 0 ≤ S.left ∧ S.left ≤ bytes := ⟨h.some, left_le h (sumI_nonneg _ fun i hi => (h.each i (by rw [← h.len]; exact hi)).1)⟩
theorem S1_step {l : List ShM} {bl : List Int} {bytes : Int} (hG : grantOk l.length bl bytes) {k : Nat} (hk : k < l.length) :
    S1 l bl bytes (k + 1) = ⟨(S1 l bl bytes k).out.set ((ordT l).getD k 0) (min (min (bl.getD ((ordT l).getD k 0) 0) (max (l.getD ((ordT l).getD k 0) .zero).lv 0)) (S1 l bl bytes k).left), (S1 l bl bytes k).left - min (min (bl.getD ((ordT l).getD k 0) 0) (max (l.getD ((ordT l).getD k 0) .zero).lv 0)) (S1 l bl bytes k).left⟩ := by
  have hko : k < (ordT l).length := by rw [ordT_length]; exact hk
  have hi := ordT_at hk
  have e : S1 l bl bytes (k + 1) = (S1 l bl bytes k).give true (lvs l) bl ((ordT l).getD k 0) := round_take true (lvs l) bl (ordT l) _ hko
  have hz : (S1 l bl bytes k).out.getD ((ordT l).getD k 0) 0 = 0 := by
    have := round_other true (lvs l) bl ((ordT l).take k) ⟨List.replicate bl.length 0, bytes⟩ (not_before (ordT_nodup l) hko)
    unfold S1
    rw [this]
    show (List.replicate bl.length (0 : Int)).getD _ 0 = 0
    simp only [List.getD, List.getElem?_replicate]
    split <;> rfl
  have hb := (of_decide_eq_true (hG.2.2 ((ordT l).getD k 0) (by rw [hG.1]; exact hi))).1
  rw [e, give_first hb (S1_ok hG k).some hz, lvs_at hi]
theorem S2_step {l : List ShM} {bl : List Int} {bytes : Int} (hG : grantOk l.length bl bytes) {k : Nat} (hk : k < l.length) :
    S2 l bl bytes (k + 1) = ⟨(S2 l bl bytes k).out.set ((ordT l).getD k 0) ((S2 l bl bytes k).out.getD ((ordT l).getD k 0) 0 + min (bl.getD ((ordT l).getD k 0) 0 - (S2 l bl bytes k).out.getD ((ordT l).getD k 0) 0) (S2 l bl bytes k).left), (S2 l bl bytes k).left - min (bl.getD ((ordT l).getD k 0) 0 - (S2 l bl bytes k).out.getD ((ordT l).getD k 0) 0) (S2 l bl bytes k).left⟩ := by
  have hko : k < (ordT l).length := by rw [ordT_length]; exact hk
  have hi := ordT_at hk
  have e : S2 l bl bytes (k + 1) = (S2 l bl bytes k).give false (lvs l) bl ((ordT l).getD k 0) := round_take false (lvs l) bl (ordT l) _ hko
  have hS := S2_ok hG k
  rw [e, give_second (hS.each _ (by rw [hG.1]; exact hi)).2 hS.some]
end Go.Proofs.YtmdfjhnibhmdkafDoor
