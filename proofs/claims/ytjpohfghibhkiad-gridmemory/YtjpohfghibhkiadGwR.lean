import Derived.Test.YtjpohfghibhkiadGrowU
import Derived.Test.YtjpohfghibhkiadGridR
namespace Go.Proofs.Ytjpohfghibhkiad
open Go.ChangeShapes Go.WideShapes Go.ChangeAt Go.RowKit

/-! A region that draws its order: all its operations but the last yield known values; the last comes behind them. -/

set_option maxHeartbeats 1000000 in
theorem region_last {P : Program} {ops : Array Oper} {id : Nat} {l0 : List Value} {Q : Exit → Act → World → Prop} (k : Nat) (s0 : Nat) (v0 : Value) (post : List (Nat × Value)) (reads : List (List Nat)) (par : List Nat) (wr : World) (hm : P.follows .mixedOrders = true) (hn : ops.size = k + 1)
    (hdk : 0 + 1 + post.length = k) (hnd : (((s0, v0) :: post).map (·.1)).Nodup) (hdN : (((s0, v0) :: post).all fun q => decide (q.1 < l0.length)) = true)
    (havail : ((List.range k).all fun i => (reads.getD i []).all fun s => (List.range k).all fun j => ((((s0, undef) :: post).getD j (0, undef)).1 != s) || waitsFor ops i j) = true) (htopo : ((List.range (k + 1)).all fun i => laterNone ops i) = true)
    (hrN : ((List.range k).all fun i => (reads.getD i []).all fun s => decide (s < l0.length)) = true)
    (hpar : ((List.range k).all fun j => decide (j < par.getD j 0) && (decide (par.getD j 0 ≤ k) && waitsFor ops (par.getD j 0) j)) = true)
    (hstep : ∀ i, i < k → ∀ (a : Act) (w : World), Below wr.heap.size wr w → (∀ s ∈ reads.getD i [], a.eval (.tmp s) = lkp l0 ((s0, v0) :: post) s) → ∀ (Q : Exit → Act → World → Prop) (K : Act → World → Prop), (∀ w', w.grownBy w' none → K (a.put (some (((s0, v0) :: post).getD i (0, undef)).1) (((s0, v0) :: post).getD i (0, undef)).2) w') → wpOp P ops Q i K a w)
    (hlast : ∀ w, Below wr.heap.size wr w → tailWp P ops Q [k] { tmps := (setAll l0 ((s0, v0) :: post)).toArray, defers := [] } w) :
    (Code.region id ops true).wp P Q { tmps := l0.toArray, defers := [] } wr := by
  refine region_growU (k + 1) k 0 [] s0 post reads par (fun x _ => x = v0) wr hm hn (by omega) rfl hdk hnd hdN havail htopo hrN hpar ?_ (fun _ _ _ h _ => h) ?_ ?_
  · refine List.all_eq_true.2 fun i hi => ?_
    have := List.mem_range.1 hi
    rw [decide_eq_true (show i ≤ k by omega)]
    rfl
  · intro i hi x a w hb hx hr Q K hK1 hK
    refine hstep i hi a w hb (fun s hs => ?_) Q K (fun w' hg => ?_)
    · rw [hr s hs]
      by_cases e : s = s0
      · subst e
        rw [hx hs]
        rfl
      · exact lkp_mid s0 post x v0 [] s e
    · by_cases e : i = 0
      · subst e
        exact hK1 rfl v0 w' hg rfl
      · have := hK e w' hg
        obtain ⟨j, rfl⟩ : ∃ j, i = j + 1 := ⟨i - 1, by omega⟩
        exact this
  · intro x w hb hx
    subst hx
    rw [show k + 1 - k = 1 by omega]
    exact hlast w hb
end Go.Proofs.Ytjpohfghibhkiad
