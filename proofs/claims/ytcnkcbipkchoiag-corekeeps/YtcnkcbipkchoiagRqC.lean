import Derived.Test.YtcnkcbipkchoiagRqB
namespace Go.Proofs.Ytcnkcbipkchoiag
open Go.ChangeShapes Go.WideShapes Go.ChangeAt Go.RowKit

/-! THE LAW RepeatOnce: what stands in memory all the while. -/

theorem Grown.out {F F' : List Nat} {n x : Nat} (h : Grown n F F') (hx : x ∉ F) (hl : x < n) : x ∉ F' := fun e => by
  rcases h x e with g | g
  · exact hx g
  · omega
theorem Grown.outA {F F' : List Nat} {n : Nat} {a : Option Addr} (h : Grown n F F') (hx : NotIn F a) (hl : ∀ x, a = some x → x.block < n) : NotIn F' a := fun x e => h.out (hx x e) (hl x e)
theorem Grown.low {B : Nat} {F F' : List Nat} {n : Nat} (h : Grown n F F') (hb : ∀ x ∈ F, B ≤ x) (hl : B ≤ n) : ∀ x ∈ F', B ≤ x := fun x hx => by
  rcases h x hx with g | g
  · exact hb x g
  · omega

end Go.Proofs.Ytcnkcbipkchoiag
