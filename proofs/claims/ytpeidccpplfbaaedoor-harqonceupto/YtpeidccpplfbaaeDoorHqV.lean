import Derived.Test.YtpeidccpplfbaaeDoorFrame
import Derived.Test.YtpeidccpplfbaaeDoorArrs
namespace Go.Proofs.YtpeidccpplfbaaeDoor
open Go.ChangeShapes Go.WideShapes Go.ChangeAt Go.RowKit

/-! VERSIONS; FOUR RESULTS. -/

def verOk (v : Int) : Bool := decide (0 ≤ v ∧ v ≤ 3)
def procErr (p : Int) : Int := if 0 ≤ p ∧ p ≤ 7 then 0 else 1
theorem ret_boolM {a b : Bool} (h : a = b) : Ending.returned (.bool a) = .returned (.bool b) := by rw [h]
theorem cellOld {w w' : World} (hb : Below w.heap.size w w') {p : Addr} {v : Value} (h : w.cell? p = some v) : w'.cell? p = some v := (hb.cell (World.block_lt_of_cell? w _ h)).trans h
theorem results_tmp4 {fn : Func} {t u v x : Tmp} (h : fn.results = #[.tmp t, .tmp u, .tmp v, .tmp x]) (tmps : Array Value) (P : Program) (w : World) :
    (results fn tmps).run P w = .ok (.tuple #[tmps.getD t undef, tmps.getD u undef, tmps.getD v undef, tmps.getD x undef]) w := by
  simp [results, h]

end Go.Proofs.YtpeidccpplfbaaeDoor
